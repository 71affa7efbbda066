/-
  PROVED HERE: mix.lanesOf gives the ops of each deal, in rows of their own, as an array of slices. Old memory stays as it was.
  Conditions: there are at most 8 ops, of deals from 1 to 6.
  PROVED HERE: mix.eachOrder's closure that calls itself hands all orders of rows of ops behind a beginning to the closure that is asked, sorted, as long as that wants more. Of old memory the order's row and its variable turn, and what the asked closure turns.
  Conditions: what the closure that is handed in does is a premise.
  (Of these, what the claim wants: the rest was left out.)
-/
import Derived.Test.YtmjjiehnjghndaaGreatMgbh
import Derived.Laws.Rows
import Derived.Laws.CopyOwn
import Derived.BigFrame
import Derived.Deep.RegionLaw
import Derived.Deep.CutRange
namespace Go.Proofs.YtmjjiehnjghndaaGreat
open Go.RowKit

/-- The rows of ops as they grow: seven slices in a block, each a row of its own. -/
structure LanesAt (w : World) (B base : Nat) (A : Nat → Option Addr) (N C : Nat → Nat) (rows : Nat → List Op3) : Prop where
  arr : LnAt w B A N C
  own : ∀ d, d < 7 → w.ownsRow base 38 3 (.slice (A d) (N d) (C d)) (N d) (flat (rows d))
  len : ∀ d, d < 7 → N d = (rows d).length
  apart : ∀ d e, d < 7 → e < 7 → d ≠ e → ∀ b, (Value.slice (A d) (N d) (C d)).ownBlock = some b → (Value.slice (A e) (N e) (C e)).ownBlock ≠ some b
  lt : B < base
theorem LanesAt.later {w w1 : World} {B base : Nat} {A : Nat → Option Addr} {N C : Nat → Nat} {rows : Nat → List Op3} (h : LanesAt w B base A N C rows) (hb : Below w.heap.size w w1) : LanesAt w1 B base A N C rows where
  arr := h.arr.same (hb.block B h.arr.lt)
  own := fun d hd => TurnM.own (A := fun _ => False) (TurnM.below hb) (h.own d hd) (fun _ _ h => h)
  len := h.len
  apart := h.apart
  lt := h.lt
theorem LanesAt.push {w w1 : World} {B base : Nat} {A : Nat → Option Addr} {N C : Nat → Nat} {rows : Nat → List Op3} (h : LanesAt w B base A N C rows) {t : Nat} (ht : t < 7) {o : Op3} {a' : Option Addr} {c' : Nat}
    (hown : w1.ownsRow base 38 3 (.slice a' (N t + 1) c') (N t + 1) (flat (rows t) ++ flat [o])) (hg : w.grownBy w1 (Value.slice (A t) (N t) (C t)).ownBlock)
    (hap : ∀ g, (Value.slice a' (N t + 1) c').ownBlock = some g → (Value.slice (A t) (N t) (C t)).ownBlock = some g ∨ w.heap.size ≤ g) :
    LanesAt (w1.setCell ⟨B, t, none⟩ (.slice a' (N t + 1) c')) B base (updN A t a') (updN N t (N t + 1)) (updN C t c') (updN rows t (rows t ++ [o])) := by
  have hlt := h.lt
  have hne : some B ≠ (Value.slice (A t) (N t) (C t)).ownBlock := fun e => by have := ((h.own t ht).lt B e.symm).1; omega
  have key : ∀ e, e < 7 → e ≠ t → ∀ b, (Value.slice (A e) (N e) (C e)).ownBlock = some b → (Value.slice a' (N t + 1) c').ownBlock ≠ some b := fun e he het b hb hb2 => by
    rcases hap b hb2 with h1 | h1
    · exact h.apart t e ht he (Ne.symm het) b h1 hb
    · have := ((h.own e he).lt b hb).2; omega
  refine ⟨(h.arr.same (hg.block B h.arr.lt hne)).set ht _ _ _, fun d hd => ?_, fun d hd => ?_, fun d e hd he hde b => ?_, hlt⟩
  · by_cases hdt : d = t
    · simp only [updN, if_pos hdt]
      rw [flat_append]
      exact ownsRow_setCell_below hown hlt _
    · simp only [updN, if_neg hdt]
      refine ownsRow_setCell_below ((h.own d hd).kept hg ?_) hlt _
      cases hv : (Value.slice (A d) (N d) (C d)).ownBlock with
      | none => exact .inl rfl
      | some k => exact .inr fun e => h.apart d t hd ht hdt k hv e.symm
  · by_cases hdt : d = t
    · simp only [updN, if_pos hdt]
      rw [List.length_append, ← h.len t ht]; rfl
    · simp only [updN, if_neg hdt]
      exact h.len d hd
  · by_cases hdt : d = t
    · have het : e ≠ t := fun e' => hde (hdt.trans e'.symm)
      simp only [updN, if_pos hdt, if_neg het]
      exact fun h1 h2 => key e he het b h2 h1
    · by_cases het : e = t
      · simp only [updN, if_neg hdt, if_pos het]
        exact fun h1 => key d hd hdt b h1
      · simp only [updN, if_neg hdt, if_neg het]
        exact h.apart d e hd he hde b
def rowsTo (l : List Op3) (k : Nat) : Nat → List Op3 := fun d => ofL (l.take k) (d : Int)
theorem rowsTo_all (l : List Op3) : rowsTo l l.length = rowsL l := by unfold rowsTo rowsL; rw [List.take_length]
theorem rowsTo_succ {l : List Op3} {k : Nat} (hk : k < l.length) {o : Op3} (ho : opAt l k = o) (h1 : 1 ≤ o.1) : rowsTo l (k + 1) = updN (rowsTo l k) o.1.toNat (rowsTo l k o.1.toNat ++ [o]) := by
  have hs : l.take (k + 1) = l.take k ++ [o] := by
    rw [List.take_succ_eq_append_getElem hk, ← ho]; simp [opAt, List.getD, List.getElem?_eq_getElem hk]
  funext d
  unfold rowsTo updN
  rw [hs, ofL_append, ofL_cons]
  by_cases hd : d = o.1.toNat
  · rw [if_pos hd, if_pos (show o.1 = (d : Int) by omega), hd]; simp [ofL]
  · rw [if_neg hd, if_neg (show ¬ o.1 = (d : Int) by omega)]; simp [ofL]
theorem lanes_start (w : World) (B base : Nat) (hB : B < base) (h : LnAt w B (fun _ => none) (fun _ => 0) (fun _ => 0)) (l : List Op3) : LanesAt w B base (fun _ => none) (fun _ => 0) (fun _ => 0) (rowsTo l 0) where
  arr := h
  own := fun d _ => World.ownsRow_nil w base _ 3
  len := fun d _ => rfl
  apart := fun d e _ _ _ b hb => by simp [Value.ownBlock] at hb
  lt := hB
theorem LanesAt.rows {w : World} {B base : Nat} {A : Nat → Option Addr} {N C : Nat → Nat} {rows : Nat → List Op3} (h : LanesAt w B base A N C rows) (h0 : rows 0 = []) {lo : Nat} (hlo : lo ≤ base) : RowsN w (fun k => k < lo) A N C rows where
  none := h0
  len := fun d hd => by
    refine ⟨h.len d hd, ?_⟩
    obtain ⟨_, ⟨hv, hn⟩ | ⟨g, cap, cur, hv, _, _, hn, _⟩⟩ := h.own d hd
    · rw [hn]; exact Nat.zero_le _
    · simp only [Value.slice.injEq] at hv
      obtain ⟨_, _, hc⟩ := hv
      rw [hc]; exact hn
  ops := fun d hd => isOps_own (h.own d hd) (h.len d hd).symm
  far := fun d hd b hb => by have := ((h.own d hd).lt b hb).1; omega
theorem TurnM.row {A : Nat → Prop} {w : World} {g : Nat} (hg : A g) (cs : Array Value) : TurnM A w (w.setRow g cs) :=
  ⟨rfl, rfl, rfl, by simp [World.setRow], fun k _ hn => setRow_other w g k _ (fun e => hn (e ▸ hg))⟩
theorem RowsN.mono {w : World} {Ch Dh : Nat → Prop} {A : Nat → Option Addr} {N C : Nat → Nat} {rows : Nat → List Op3} (h : RowsN w Ch A N C rows) (hc : ∀ k, Dh k → Ch k) : RowsN w Dh A N C rows :=
  ⟨h.none, h.len, h.ops, fun d hd b hb hD => h.far d hd b hb (hc b hD)⟩
theorem lanes_info : (Tryz.prog.info? 72).map (·.size) = some 7 := by kernel_rfl
theorem arrN_one (A : Nat → Option Addr) (N C : Nat → Nat) : (arrN A N C).all (·.oneCell') = true := by simp [arrN, Value.oneCell']
theorem op_newN (W : World) (o : Op3) : ∀ j u, (flat [o])[j]? = some u → (W.alloc (.cells #[.int .i64 o.1, .int .i64 o.2.1, .int .i64 o.2.2] 38)).cell? ((⟨W.heap.size, 0, none⟩ : Addr).add j) = some u := one_at W o.1 o.2.1 o.2.2

set_option maxHeartbeats 8000000 in
theorem lanes_any (l : List Op3) (v : Value) (w : World) (hI : IsOps w v l) (hl : l.length ≤ 8) (hin : ∀ o ∈ l, 1 ≤ o.1 ∧ o.1 ≤ 6) :
    Calls Tryz.prog 32 #[v] w fun e w' => ∃ A N C, e = .returned (.agg (arrN A N C)) ∧ RowsN w' (fun k => k < w.heap.size) A N C (rowsL l) ∧ Below w.heap.size w w' := by
  obtain ⟨ad, b, off, cap, rfl, ha, _, hbB, hops⟩ := hI
  have HO : Hid (∀ W, Below w.heap.size w W → ∀ k, k < l.length → ad = some ⟨b, off, none⟩ ∧ W.cell? ⟨b, off + k * 3, none⟩ = some (.int .i64 (opAt l k).1) ∧ W.cell? ⟨b, off + k * 3 + 1, none⟩ = some (.int .i64 (opAt l k).2.1) ∧ W.cell? ⟨b, off + k * 3 + 2, none⟩ = some (.int .i64 (opAt l k).2.2)) := fun W hW k hk => ⟨ha (by omega), (hops.below hW hbB) k hk⟩
  have HIN := hid_mm hin
  clear ha hbB hops hin
  obtain ⟨i0, hi, hz0, hs0, hy0⟩ := info_parts infoOp
  have HI : Hid (Tryz.prog.info? 38 = some i0 ∧ i0.zero = some (.agg #[.int .i64 0, .int .i64 0, .int .i64 0]) ∧ i0.size = 3 ∧ i0.bytes = 24) := ⟨hi, hz0, hs0, hy0⟩
  clear hi hz0 hs0 hy0
  go_enter Tryz.func32, Tryz.ntmps32
  go_wp2
  go_loopw [5, 8] (fun _ v8 wr => ∃ (k : Nat) (A : Nat → Option Addr) (N C : Nat → Nat), k ≤ l.length ∧ v8 = .int .i64 k ∧ Below w.heap.size w wr ∧ LnAt wr w.heap.size (fun _ => none) (fun _ => 0) (fun _ => 0) ∧ LanesAt wr (w.heap.size + 1) (w.heap.size + 2) A N C (rowsTo l k)) (fun _ v8 _ => l.length - (intOf v8).toNat)
  case atStart =>
    have h0 := ln_new w (fun _ => none) (fun _ => 0) (fun _ => 0)
    have h1 := ln_new (w.alloc (.cells (arrN (fun _ => none) (fun _ => 0) (fun _ => 0)) 72)) (fun _ => none) (fun _ => 0) (fun _ => 0)
    rw [show (w.alloc (.cells (arrN (fun _ => none) (fun _ => 0) (fun _ => 0)) 72)).heap.size = w.heap.size + 1 by simp] at h1
    exact ⟨0, fun _ => none, fun _ => 0, fun _ => 0, Nat.zero_le _, rfl, ((Below.refl _ w).alloc (Nat.le_refl _) _).alloc (by simp) _, h0.same (((Below.refl _ _).alloc (Nat.le_refl _) _).block _ (by simp)), lanes_start _ _ _ (by omega) h1 l⟩
  case round =>
    obtain ⟨k, A, N, C, hk, rfl, hbel, hz, hs⟩ := hrel
    have HZ := hid_mm hz
    have HS := hid_mm hs
    have HBW := hid_mm hbel
    have hB1 := hs.arr.lt
    clear hz hs
    by_cases hlt : k < l.length
    · have hlt' : (k : Int) < (l.length : Int) := by omega
      obtain ⟨hadr, c0, c1, c2⟩ := HO.out wr hbel k hlt
      subst hadr
      obtain ⟨⟨t, a, x⟩, ho⟩ : ∃ o : Op3, opAt l k = o := ⟨_, rfl⟩
      obtain ⟨ht1, ht6⟩ := HIN.out (t, a, x) (by rw [← ho]; exact opAt_mem hlt)
      have HRS := hid_mm (rowsTo_succ hlt ho ht1)
      rw [ho] at c0 c1 c2
      simp only at c0 c1 c2 ht1 ht6
      clear ho hbel
      go_upto_region 5 with (fail)
      obtain ⟨W, hW⟩ : ∃ W, W = wr.alloc (.cells #[.int .i64 t, .int .i64 a, .int .i64 x] 38) := ⟨_, rfl⟩
      rw [← hW]
      obtain ⟨P, hP⟩ : ∃ P, P = wr.heap.size := ⟨_, rfl⟩
      rw [← hP]
      have p0 : W.cell? ⟨P, 0, none⟩ = some (.int .i64 t) := by rw [hW, hP]; simp
      have p1 : W.cell? ⟨P, 1, none⟩ = some (.int .i64 a) := by rw [hW, hP]; simp
      have p2 : W.cell? ⟨P, 2, none⟩ = some (.int .i64 x) := by rw [hW, hP]; simp
      have hbw : Below wr.heap.size wr W := by rw [hW]; exact (Below.refl _ wr).alloc (Nat.le_refl _) _
      have HZW : Hid (LnAt W w.heap.size (fun _ => none) (fun _ => 0) (fun _ => 0)) := HZ.out.same (hbw.block _ HZ.out.lt)
      have HSW : Hid (LanesAt W (w.heap.size + 1) (w.heap.size + 2) A N C (rowsTo l k)) := HS.out.later hbw
      have HBW2 : Hid (Below w.heap.size w W) := HBW.out.trans (hbw.mono HBW.out.size)
      have hPB : w.heap.size + 1 < P := by omega
      have hPW : P < W.heap.size := World.block_lt_of_cell? W _ p0
      have ht0 : 0 ≤ t := by omega
      have ht7 : t < 7 := by omega
      obtain ⟨d, hd⟩ : ∃ d : Nat, d = t.toNat := ⟨_, rfl⟩
      have hd7 : d < 7 := by omega
      have HD := hid_mm hd
      obtain ⟨nd, hnd⟩ : ∃ n, N d = n := ⟨_, rfl⟩
      obtain ⟨cd, hcd⟩ : ∃ n, C d = n := ⟨_, rfl⟩
      obtain ⟨av, hav⟩ : ∃ n, A d = n := ⟨_, rfl⟩
      have g0 := HSW.out.arr.cell hd7
      have HOW : Hid (W.ownsRow (w.heap.size + 2) 38 3 (.slice av nd cd) nd (flat (rowsTo l k d))) := by
        show W.ownsRow _ _ _ _ _ _
        rw [← hnd, ← hcd, ← hav]; exact HSW.out.own d hd7
      have hn8 : nd ≤ 8 := by
        have h1 := HSW.out.len d hd7
        rw [hnd] at h1
        rw [h1]
        have h2 := List.length_filter_le (fun o : Op3 => o.1 == (d : Int)) (l.take k)
        have h3 : (l.take k).length ≤ k := List.length_take_le _ _
        unfold rowsTo ofL; omega
      rw [hnd, hcd, hav] at g0
      have HGO : Hid (∀ v2 w2, w2.ownsRow (w.heap.size + 2) 38 3 v2 (nd + 1) (flat (rowsTo l k d) ++ flat [(t, a, x)]) → (W.drew.alloc (.cells #[.int .i64 t, .int .i64 a, .int .i64 x] 38)).grownBy w2 (Value.slice av nd cd).ownBlock → (∀ g, v2.ownBlock = some g → (Value.slice av nd cd).ownBlock = some g ∨ (W.drew.alloc (.cells #[.int .i64 t, .int .i64 a, .int .i64 x] 38)).heap.size ≤ g) →
          w2.cell? ⟨P, 0, none⟩ = some (.int .i64 t) ∧ w2.cell? ⟨w.heap.size + 1, d, none⟩ = some (.slice av nd cd) ∧ w2.frozen? ⟨w.heap.size + 1, d, none⟩ = false ∧ ∃ a' c', v2 = .slice a' (nd + 1) c' ∧
          ∃ A' N' C', LnAt (w2.setCell ⟨w.heap.size + 1, d, none⟩ v2) w.heap.size (fun _ => none) (fun _ => 0) (fun _ => 0) ∧ LanesAt (w2.setCell ⟨w.heap.size + 1, d, none⟩ v2) (w.heap.size + 1) (w.heap.size + 2) A' N' C' (rowsTo l (k + 1)) ∧ Below w.heap.size w (w2.setCell ⟨w.heap.size + 1, d, none⟩ v2)) := by
        intro v2 w2 hown2 hgr2 hap2
        have hB : Below W.heap.size W (W.drew.alloc (.cells #[.int .i64 t, .int .i64 a, .int .i64 x] 38)) := (Below.refl _ W).drew.alloc (Nat.le_refl _) _
        have hL := HSW.out.later hB
        have hrow : ∀ q, (Value.slice av nd cd).ownBlock = some q → w.heap.size + 2 ≤ q ∧ q < P := fun q hq => ⟨(HOW.out.lt q hq).1, by
          have h1 := HS.out.own d hd7
          rw [hnd, hcd, hav] at h1
          have := (h1.lt q hq).2; omega⟩
        have hne : ∀ q, q < w.heap.size + 2 ∨ P ≤ q → some q ≠ (Value.slice av nd cd).ownBlock := fun q hq e => by have := hrow q e.symm; omega
        obtain ⟨a', c', rfl⟩ : ∃ a' c', v2 = .slice a' (nd + 1) c' := by
          obtain ⟨_, ⟨h1, h2⟩ | ⟨g, cap, cur, h1, _⟩⟩ := hown2
          · omega
          · exact ⟨_, cap, h1⟩
        have e1 : w2.cell? ⟨w.heap.size + 1, d, none⟩ = some (.slice av nd cd) := hgr2.cell (by have := hL.arr.cell hd7; rw [hnd, hcd, hav] at this; exact this) (hne _ (.inl (by show w.heap.size + 1 < w.heap.size + 2; omega)))
        refine ⟨hgr2.cell (by rw [hB.cell (p := ⟨P, 0, none⟩) hPW]; exact p0) (hne _ (.inr (Nat.le_refl _))), e1, ?_, a', c', rfl, ?_⟩
        · have h1 := hgr2.block (w.heap.size + 1) hL.arr.lt (hne _ (.inl (by omega)))
          exact (World.frozen?_of_block (a := ⟨w.heap.size + 1, d, none⟩) h1).trans (hL.arr.thaw d)
        · refine ⟨updN A d a', updN N d (nd + 1), updN C d c', ?_, ?_, ?_⟩
          · have h1 : LnAt w2 w.heap.size (fun _ => none) (fun _ => 0) (fun _ => 0) := HZW.out.same ((hgr2.block _ (by have := HZW.out.lt; have := hB.size; omega) (hne _ (.inl (by omega)))).trans (hB.block _ HZW.out.lt))
            exact h1.same (Below.heap_setCell _ _ _ _ (by show w.heap.size ≠ w.heap.size + 1; omega))
          · have h1 := hL.push hd7 (o := (t, a, x)) (w1 := w2) (a' := a') (c' := c') (by rw [hnd]; exact hown2) (by rw [hnd, hcd, hav]; exact hgr2) (by rw [hnd, hcd, hav]; exact hap2)
            rw [hnd] at h1
            rw [HRS.out]
            rw [HD.out] at h1 ⊢
            exact h1
          · exact (((HBW2.out.trans (hB.mono HBW2.out.size)).grown hgr2 (by have := HBW2.out.size; have := hB.size; omega) (fun q hq => by have := hrow q hq; omega))).setCell (by show w.heap.size ≤ w.heap.size + 1; omega) _
      have hW2 : w.heap.size + 2 ≤ W.heap.size := by omega
      clear hW hP hbw HZ HS c0 c1 c2 HBW HRS hnd hcd hav hPB hB1
      have hdt : (d : Int) = t := by omega
      rw [hd] at g0 HGO HOW
      have hc1 : ∀ ob : Obj, (W.alloc ob).cell? ⟨w.heap.size + 1, t.toNat, none⟩ = some (.slice av nd cd) := fun ob => by rw [World.cell?_alloc_lt _ _ ⟨w.heap.size + 1, t.toNat, none⟩ (by show w.heap.size + 1 < W.heap.size; omega)]; exact g0
      clear hd HD hdt HSW HZW hd7
      go_region_law (refine step_append_apart rfl (.tmp 17) (.tmp 19) 22 rfl (w.heap.size + 2) 38 i0 (.agg #[.int .i64 0, .int .i64 0, .int .i64 0]) 3 24 Tryz.underlying22 HI.out.1 HI.out.2.1 HI.out.2.2.1 HI.out.2.2.2 rfl (by decide) (.slice av nd cd) nd (flat (rowsTo l k t.toNat)) (by simp [Act.eval]) (HOW.out.alloc _) ⟨W.heap.size, 0, none⟩ 1 1 (flat [(t, a, x)]) (by simp [Act.eval]) rfl (op_newN W (t, a, x)) (flat_one _) (by unfold maxLen; omega) (by omega) (by have := HBW2.out.size; simp; omega) ?_; intro v2 w2 hown2 hgr2 hap2; obtain ⟨e0, e1, e2, a', c', rfl, A', N', C', e3, e4, e5⟩ := HGO.out v2 w2 hown2 hgr2 hap2; have HK3 := hid_mm e3; have HK4 := hid_mm e4; have HK5 := hid_mm e5; clear e3 e4 e5 hap2 hgr2 hown2)
      all_goals
        go_wp2_with fail
        go_roundw
        case rel => exact ⟨k + 1, A', N', C', by omega, by go_num, HK5.out, HK3.out, HK4.out⟩
        case measure => simp [intOf]; omega
    · have hlt' : ¬ (k : Int) < (l.length : Int) := by omega
      obtain rfl : k = l.length := by omega
      clear hbel
      go_wp2_with (first | refine wpList_load_row rfl 72 (.tmp 3) rfl (w.heap.size + 1) rfl 72 (arrN A N C) (0, 0) _ HS.out.arr Tryz.underlying72 rfl lanes_info ?_ | refine wpList_store_row rfl 72 (.tmp 2) (.tmp 23) rfl w.heap.size (arrN A N C) rfl rfl 72 (arrN (fun _ => none) (fun _ => 0) (fun _ => 0)) HZ.out lanes_info rfl (arrN_one _ _ _) ?_)
      have h0 : rowsL l 0 = [] := by
        unfold rowsL ofL
        refine List.filter_eq_nil_iff.2 fun o ho => ?_
        have := HIN.out o ho
        simp; omega
      have hrows := HS.out.rows (lo := w.heap.size + 2) (by rw [rowsTo_all]; exact h0) (by omega)
      rw [rowsTo_all] at hrows
      refine bodyPost_ret (v := .agg (arrN A N C)) (results_cell_row Tryz.results32 _ _ w.heap.size 72 (arrN A N C) (0, 0) _ rfl (setRow_heap _ _ _ _ _ _ HZ.out) Tryz.underlying72 rfl lanes_info) rfl ⟨A, N, C, rfl, ?_, below_setRow HBW.out (Nat.le_refl _) _⟩
      exact (hrows.turn (TurnM.row (by omega) _)).mono fun k hk => by omega
end Go.Proofs.YtmjjiehnjghndaaGreat

namespace Go.Proofs.YtmjjiehnjghndaaGreat
open Go.RowKit

/-- A closure that is asked of each order: what it does with a state of its own. -/
structure TakeOk {S : Type} (st : S → List Op3 → S × Bool) (I : S → World → Prop) (L : S → Prop) (T : Nat → Prop) (G : List Op3 → Prop) (hl N : Nat) (caps : Array Value) : Prop where
  call : ∀ (args : Array Value) (W : World), (callFunc N args).run Tryz.prog W = .ok (.enter N args) W
  says : ∀ s x q w, L s → I s w → G x → x.length = hl → IsOps w (.slice (some ⟨q, 0, none⟩) x.length hl) x → Calls Tryz.prog N (#[.slice (some ⟨q, 0, none⟩) x.length hl] ++ caps) w fun e w' => e = .returned (.bool (st s x).2) ∧ I (st s x).1 w' ∧ TurnM T w w'
  on : ∀ s x, (st s x).2 = true → L (st s x).1
  keep : ∀ s w w' A, L s → I s w → TurnM A w w' → (∀ k, T k → ¬ A k) → I s w'
theorem TakeOk.live {S : Type} {st : S → List Op3 → S × Bool} {I : S → World → Prop} {L : S → Prop} {T : Nat → Prop} {G : List Op3 → Prop} {hl N : Nat} {caps : Array Value} (h : TakeOk st I L T G hl N caps) : ∀ {l : List (List Op3)} {s s1 : S}, L s → goO st l s = (s1, true) → L s1 := by
  intro l
  induction l with
  | nil => intro s s1 hs h1; rw [goO] at h1; cases h1; exact hs
  | cons x r ih =>
    intro s s1 hs h1
    rw [goO] at h1
    by_cases hq : (st s x).2 = true
    · rw [if_pos hq] at h1; exact ih (h.on s x hq) h1
    · rw [if_neg hq] at h1; cases h1
/-- The closure's four variables, and the order's row. -/
structure GrAt (w : World) (p0 p1 p2 p3 g hl : Nat) (had : Option Addr) (hc : Nat) (tv : Value) (b : List Op3) : Prop where
  order : w.cell? ⟨p0, 0, none⟩ = some (.slice (some ⟨g, 0, none⟩) b.length hl)
  thaw : w.frozen? ⟨p0, 0, none⟩ = false
  own : w.ownsRow g 38 3 (.slice (some ⟨g, 0, none⟩) b.length hl) b.length (flat b)
  hist : w.cell? ⟨p1, 0, none⟩ = some (.slice had hl hc)
  take : w.cell? ⟨p2, 0, none⟩ = some tv
  fn : w.cell? ⟨p3, 0, none⟩ = some (.func (.func 31) #[] #[.pointer (some ⟨p0, 0, none⟩), .pointer (some ⟨p1, 0, none⟩), .pointer (some ⟨p2, 0, none⟩), .pointer (some ⟨p3, 0, none⟩)])
structure FarM (T : Nat → Prop) (p0 p1 p2 p3 g : Nat) : Prop where
  ne : p1 ≠ p0 ∧ p2 ≠ p0 ∧ p3 ≠ p0 ∧ p0 ≠ g ∧ p1 ≠ g ∧ p2 ≠ g ∧ p3 ≠ g
  far : ¬ T p0 ∧ ¬ T p1 ∧ ¬ T p2 ∧ ¬ T p3 ∧ ¬ T g
  lim : ∀ k, T k → k < g
def ChM (T : Nat → Prop) (p0 g : Nat) : Nat → Prop := fun k => T k ∨ k = p0 ∨ k = g
theorem GrAt.turn {w w1 : World} {p0 p1 p2 p3 g hl hc : Nat} {had : Option Addr} {tv : Value} {b : List Op3} {A : Nat → Prop} (h : GrAt w p0 p1 p2 p3 g hl had hc tv b) (ht : TurnM A w w1)
    (h0 : ¬ A p0) (h1 : ¬ A p1) (h2 : ¬ A p2) (h3 : ¬ A p3) (hg : ¬ A g) : GrAt w1 p0 p1 p2 p3 g hl had hc tv b where
  order := ht.cell h.order h0
  thaw := (ht.thaw (p := ⟨p0, 0, none⟩) (World.block_lt_of_cell? w _ h.order) h0).trans h.thaw
  own := ht.own h.own fun q hq => by simp [Value.ownBlock] at hq; exact hq ▸ hg
  hist := ht.cell h.hist h1
  take := ht.cell h.take h2
  fn := ht.cell h.fn h3
theorem GrAt.lt {w : World} {p0 p1 p2 p3 g hl hc : Nat} {had : Option Addr} {tv : Value} {b : List Op3} (h : GrAt w p0 p1 p2 p3 g hl had hc tv b) : p0 < w.heap.size ∧ g < w.heap.size ∧ b.length ≤ hl :=
  ⟨World.block_lt_of_cell? w _ h.order, (h.own.lt g rfl).2, by
    obtain ⟨_, ⟨hv, _⟩ | ⟨g', cap, cur, hv, _, _, hn, _⟩⟩ := h.own
    · cases hv
    · simp only [Value.slice.injEq] at hv
      obtain ⟨_, _, hc⟩ := hv
      rw [hc]; exact hn⟩
/-- The order's row and variable turned. -/
theorem GrAt.put {w w1 : World} {p0 p1 p2 p3 g hl hc : Nat} {had : Option Addr} {tv : Value} {b b1 : List Op3} {T : Nat → Prop} (h : GrAt w p0 p1 p2 p3 g hl had hc tv b) (hF : FarM T p0 p1 p2 p3 g) (ht : TurnM (fun k => k = p0 ∨ k = g) w w1)
    (h1 : w1.cell? ⟨p0, 0, none⟩ = some (.slice (some ⟨g, 0, none⟩) b1.length hl)) (h2 : w1.frozen? ⟨p0, 0, none⟩ = false) (h3 : w1.ownsRow g 38 3 (.slice (some ⟨g, 0, none⟩) b1.length hl) b1.length (flat b1)) : GrAt w1 p0 p1 p2 p3 g hl had hc tv b1 where
  order := h1
  thaw := h2
  own := h3
  hist := ht.cell h.hist fun e => by have := hF.ne; rcases e with e | e <;> (simp only at e; omega)
  take := ht.cell h.take fun e => by have := hF.ne; rcases e with e | e <;> (simp only at e; omega)
  fn := ht.cell h.fn fun e => by have := hF.ne; rcases e with e | e <;> (simp only at e; omega)
theorem ownsRow_setCell_other {w : World} {base e size n g cap p : Nat} {xs : List Value} (h : w.ownsRow base e size (.slice (some ⟨g, 0, none⟩) n cap) n xs) (hp : p ≠ g) (u : Value) : (w.setCell ⟨p, 0, none⟩ u).ownsRow base e size (.slice (some ⟨g, 0, none⟩) n cap) n xs :=
  TurnM.own (A := fun k => k = p) (TurnM.set (TurnM.refl (fun k => k = p) w) (p := ⟨p, 0, none⟩) rfl u) h fun q hq => by simp [Value.ownBlock] at hq; omega
def MGrowOk {S : Type} (st : S → List Op3 → S × Bool) (I : S → World → Prop) (L : S → Prop) (T : Nat → Prop) (G : List Op3 → Prop) (hl N : Nat) (caps : Array Value) (p0 p1 p2 p3 g : Nat) (n : Nat) : Prop :=
  ∀ (s : S) (rows : Nat → List Op3) (b : List Op3) (A : Nat → Option Addr) (M C : Nat → Nat) (had : Option Addr) (hc : Nat) (w : World), b.length + n = hl → totR rows = n → RowsN w (ChM T p0 g) A M C rows → GrAt w p0 p1 p2 p3 g hl had hc (.func (.func N) #[] caps) b → L s → I s w → (∀ y ∈ mixG n rows, G (b ++ y)) →
  Calls Tryz.prog 31 #[.agg (arrN A M C), .pointer (some ⟨p0, 0, none⟩), .pointer (some ⟨p1, 0, none⟩), .pointer (some ⟨p2, 0, none⟩), .pointer (some ⟨p3, 0, none⟩)] w fun e w' =>
    e = .returned (.bool (goO st ((mixG n rows).map (b ++ ·)) s).2) ∧ I (goO st ((mixG n rows).map (b ++ ·)) s).1 w' ∧ TurnM (ChM T p0 g) w w' ∧ ((goO st ((mixG n rows).map (b ++ ·)) s).2 = true → GrAt w' p0 p1 p2 p3 g hl had hc (.func (.func N) #[] caps) b)
theorem goO_one {S : Type} (st : S → List Op3 → S × Bool) (x : List Op3) (s : S) : goO st [x] s = st s x := by
  rw [goO, goO]
  obtain ⟨s1, q⟩ := st s x
  cases q <;> rfl

set_option maxHeartbeats 8000000 in
theorem grow_zeroM {S : Type} {st : S → List Op3 → S × Bool} {I : S → World → Prop} {L : S → Prop} {T : Nat → Prop} {G : List Op3 → Prop} {hl N : Nat} {caps : Array Value} {p0 p1 p2 p3 g : Nat} (hT : TakeOk st I L T G hl N caps) (hF : FarM T p0 p1 p2 p3 g) :
    MGrowOk st I L T G hl N caps p0 p1 p2 p3 g 0 := by
  intro s rows b A M C had hc w hlen htot hrows hgr hL hI hG
  have hcall := hT.call
  have HGR := hid_mm hgr
  have HF := hid_mm hF
  have HT := hid_mm hT
  have HI := hid_mm hI
  have HLV0 := hid_mm hL
  have HGB : Hid (G b) := by
    have := hG [] (by simp [mixG])
    show G b
    simpa using this
  have hbl : b.length = hl := by omega
  have HBL := hid_mm hbl
  have HQ : Hid (goO st ((mixG 0 rows).map (b ++ ·)) s = st s b) := by show _ = _; rw [mixG, List.map_cons, List.map_nil, List.append_nil, goO_one]
  rw [HQ.out]
  clear hlen htot hrows hgr hL hI hG hT hF HQ
  go_enter Tryz.func31, Tryz.ntmps31
  go_upto_region 1 with (fail)
  obtain ⟨W, hW⟩ : ∃ W, W = w.alloc (.cells (arrN A M C) 72) := ⟨_, rfl⟩
  rw [← hW]
  have hbw : Below w.heap.size w W := by rw [hW]; exact (Below.refl _ w).alloc (Nat.le_refl _) _
  have HTW : Hid (TurnM T w W) := TurnM.below hbw
  have HGW : Hid (GrAt W p0 p1 p2 p3 g hl had hc (.func (.func N) #[] caps) b) := HGR.out.turn (A := fun _ => False) (TurnM.below hbw) id id id id id
  have HIW : Hid (I s W) := HT.out.keep s w W (fun _ => False) HLV0.out HI.out (TurnM.below hbw) (fun _ _ h => h)
  have c0 := HGW.out.order
  have c1 := HGW.out.hist
  have c2 := HGW.out.take
  rw [HBL.out] at c0
  clear hW hbw hbl
  have HCA : Hid (Calls Tryz.prog N (#[.slice (some ⟨g, 0, none⟩) hl hl] ++ caps) W fun e w' => e = .returned (.bool (st s b).2) ∧ I (st s b).1 w' ∧ TurnM T W w') := by
    have h1 := HT.out.says s b g W HLV0.out HIW.out HGB.out HBL.out (isOps_own HGW.out.own rfl)
    rw [HBL.out] at h1
    exact h1
  go_wp2_with fail
  refine HCA.out.mono ?_
  rintro e w1 ⟨rfl, hI1, ht1⟩
  have HI1 := hid_mm hI1
  have HT1 := hid_mm ht1
  have HG1 := HGW.out.turn ht1 HF.out.far.1 HF.out.far.2.1 HF.out.far.2.2.1 HF.out.far.2.2.2.1 HF.out.far.2.2.2.2
  have HG1' := hid_mm HG1
  clear hI1 ht1 HG1
  go_wp2_with fail
  go_ret
  exact ⟨rfl, HI1.out, (HTW.out.trans HT1.out).mono fun k hk => .inl hk, fun _ => HG1'.out⟩
theorem mix_tot {rows : Nat → List Op3} {n d : Nat} {o : Op3} {r : List Op3} (h : totR rows = n + 1) (h1 : 1 ≤ d) (h6 : d ≤ 6) (hr : rows d = o :: r) : totR (rowSet rows d r) = n := by have := totR_set h1 h6 hr; omega
theorem index_arrN (A : Nat → Option Addr) (M C : Nat → Nat) {k : Nat} (hk : k < 7) (W : World) : (Instr.index 72 (.agg (arrN A M C)) (.int .i64 k)).run Tryz.prog W = .ok (.slice (A k) (M k) (C k)) W := by
  rcases (show k = 0 ∨ k = 1 ∨ k = 2 ∨ k = 3 ∨ k = 4 ∨ k = 5 ∨ k = 6 by omega) with rfl | rfl | rfl | rfl | rfl | rfl | rfl <;> kernel_rfl
theorem lanes_infoM : (Tryz.prog.info? 72).map (·.size) = some 7 := by kernel_rfl
theorem op_oneM (W : World) (t a i : Int) : ∀ j u, (flat [(t, a, i)])[j]? = some u → (W.alloc (.cells #[.int .i64 t, .int .i64 a, .int .i64 i] 38)).cell? ((⟨W.heap.size, 0, none⟩ : Addr).add j) = some u := one_at W t a i
set_option maxHeartbeats 16000000 in
set_option maxRecDepth 100000 in
theorem grow_succM {S : Type} {st : S → List Op3 → S × Bool} {I : S → World → Prop} {L : S → Prop} {T : Nat → Prop} {G : List Op3 → Prop} {hl N : Nat} {caps : Array Value} {p0 p1 p2 p3 g : Nat} (hT : TakeOk st I L T G hl N caps) (hF : FarM T p0 p1 p2 p3 g) (hl8 : hl ≤ 8) (n : Nat)
    (ih : MGrowOk st I L T G hl N caps p0 p1 p2 p3 g n) : MGrowOk st I L T G hl N caps p0 p1 p2 p3 g (n + 1) := by
  intro s rows b A M C had hc w hlen htot hrows hgr hL hI hG
  obtain ⟨i0, hi, hz0, hs0, hy0⟩ := info_parts infoOp
  have HIO : Hid (Tryz.prog.info? 38 = some i0 ∧ i0.zero = some (.agg #[.int .i64 0, .int .i64 0, .int .i64 0]) ∧ i0.size = 3 ∧ i0.bytes = 24) := ⟨hi, hz0, hs0, hy0⟩
  have HGR := hid_mm hgr
  have HF := hid_mm hF
  have HT := hid_mm hT
  have HI := hid_mm hI
  have HLV0 := hid_mm hL
  have HIH := hid_mm ih
  have HRW := hid_mm hrows
  have HTO := hid_mm htot
  have HG := hid_mm hG
  obtain ⟨bl, hbl⟩ : ∃ bl, b.length = bl := ⟨_, rfl⟩
  have HBL := hid_mm hbl
  have hlen' : bl + (n + 1) = hl := by omega
  have HLN := hid_mm hlen'
  have hne : ((bl : Int) == (hl : Int)) = false := beq_eq_false_iff_ne.2 (by omega)
  have hUP := mixUp_seven (n := n) hrows.none
  have HUP := hid_mm hUP
  clear hi hz0 hs0 hy0 hlen htot hrows hgr hL hI hG hT hF ih hbl hUP
  go_enter Tryz.func31, Tryz.ntmps31
  go_upto_region 1 with (fail)
  obtain ⟨W, hW⟩ : ∃ W, W = w.alloc (.cells (arrN A M C) 72) := ⟨_, rfl⟩
  rw [← hW]
  obtain ⟨R, hR⟩ : ∃ R, R = w.heap.size := ⟨_, rfl⟩
  rw [← hR]
  have hbw : Below w.heap.size w W := by rw [hW]; exact (Below.refl _ w).alloc (Nat.le_refl _) _
  have HTW : Hid (TurnM (ChM T p0 g) w W) := TurnM.below hbw
  have HLW : Hid (LnAt W R A M C) := by show LnAt _ _ _ _ _; rw [hW, hR]; exact ln_new w A M C
  have HGW : Hid (GrAt W p0 p1 p2 p3 g hl had hc (.func (.func N) #[] caps) b) := HGR.out.turn (A := fun _ => False) (TurnM.below hbw) id id id id id
  have HIW : Hid (I s W) := HT.out.keep s w W (fun _ => False) HLV0.out HI.out (TurnM.below hbw) (fun _ _ h => h)
  have HRC : Hid (¬ ChM T p0 g R) := fun h => by
    have h1 := HGR.out.lt
    have h2 := HF.out.lim
    rcases h with h | h | h
    · have := h2 _ h; omega
    · omega
    · omega
  have HRR : Hid (RowsN W (ChM T p0 g) A M C rows) := HRW.out.turn HTW.out
  have c0 := HGW.out.order
  have c1 := HGW.out.hist
  rw [HBL.out] at c0
  clear hW hR hbw HRW HGR HI
  go_wp2_with (refine wpList_load_row rfl 72 (.tmp 5) rfl R rfl 72 (arrN A M C) (0, 0) _ HLW.out Tryz.underlying72 rfl lanes_infoM ?_)
  go_loopw [7, 8, 9, 19] (fun _ _ _ v19 wr => ∃ (k : Nat) (s1 : S), k ≤ 7 ∧ v19 = .int .i64 k ∧ goO st ((mixUp n rows k).map (b ++ ·)) s = (s1, true) ∧ I s1 wr ∧ GrAt wr p0 p1 p2 p3 g hl had hc (.func (.func N) #[] caps) b ∧ TurnM (ChM T p0 g) W wr) (fun _ _ _ v19 _ => 7 - (intOf v19).toNat)
  case atStart => exact ⟨0, s, Nat.zero_le _, rfl, rfl, HIW.out, HGW.out, TurnM.refl _ _⟩
  case round =>
    clear c0 c1
    obtain ⟨k, s1, hk, rfl, hgo, hI1, hgr1, ht1⟩ := hrel
    have HGO := hid_mm hgo
    have HI1 := hid_mm hI1
    have HG1 := hid_mm hgr1
    have HT1 := hid_mm ht1
    clear hgo hI1 hgr1 ht1 
    by_cases hk7 : k < 7
    · have hk' : (k : Int) < 7 := by omega
      have ha := index_arrN A M C hk7
      obtain ⟨r1, r2⟩ := HRR.out.len k hk7
      cases hr : rows k with
      | nil =>
        have hz : M k = 0 := by rw [r1, hr]; rfl
        have HPN : Hid (mixUp n rows (k + 1) = mixUp n rows k) := by show _ = _; rw [mixUp_succ]; unfold partN; rw [hr]; simp
        rw [hz] at ha
        clear r1 r2 hz hr
        go_wp2_with fail
        go_roundw
        case rel => exact ⟨k + 1, s1, by omega, by go_num, by rw [HPN.out]; exact HGO.out, HI1.out, HG1.out, HT1.out⟩
        case measure => simp [intOf]; omega
      | cons o r =>
        have hk1 : 1 ≤ k := by
          rcases Nat.eq_zero_or_pos k with h | h
          · rw [h, HRR.out.none] at hr; cases hr
          · exact h
        have hM : M k = r.length + 1 := by rw [r1, hr]; rfl
        have r3 := (HRR.out.turn HT1.out).ops k hk7
        have r4 := HRR.out.far k hk7
        rw [hM, hr] at r3
        rw [hM] at r2 ha r4
        obtain ⟨q, off, hA, hql, k0, k1, k2, A1, c1, hrun, hc1, hI1, hb1⟩ := cut_tailN r3 r2
        rw [hA] at ha hrun r4
        have HQN : Hid (¬ ChM T p0 g q) := r4 q rfl
        obtain ⟨t, a, x⟩ := o
        simp only at k0 k1 k2
        have HPM := hid_mm (part_mapN (n := n) (begun := b) hr)
        have HTS := hid_mm (mix_tot HTO.out hk1 (by omega) hr)
        have HGN : Hid (∀ y ∈ mixG n (rowSet rows k r), G ((b ++ [(t, a, x)]) ++ y)) := fun y hy => by
          have := HG.out _ (part_in hr hk1 (by omega) hy)
          rwa [List.append_assoc]
        have HI1' := hid_mm hI1
        have HC1 := hid_mm hc1
        have HB1 : Hid (∀ z, (Value.slice A1 r.length c1).ownBlock = some z → ¬ ChM T p0 g z) := fun z hz => by rw [hb1 z hz]; exact HQN.out
        have hm0 : ((((r.length + 1 : Nat) : Int)) == 0) = false := beq_eq_false_iff_ne.2 (by omega)
        obtain ⟨rl, hrl⟩ : ∃ n, r.length = n := ⟨_, rfl⟩
        rw [hrl] at hrun ha hm0 HC1 HI1' HB1
        have HRL := hid_mm hrl
        have hrl0 : (0 : Int) < ((rl + 1 : Nat) : Int) := by omega
        have c0 := HG1.out.order
        have z0 := HG1.out.thaw
        rw [HBL.out] at c0
        have hp0 := HG1.out.lt.1
        have hbl7 : bl + 1 ≤ hl := by have := HLN.out; omega
        have hq0 : ∀ ob : Obj, (wr.alloc ob).cell? ⟨p0, 0, none⟩ = some (.slice (some ⟨g, 0, none⟩) bl hl) := fun ob => by rw [World.cell?_alloc_lt _ _ ⟨p0, 0, none⟩ hp0]; exact c0
        have HOW : Hid (wr.ownsRow g 38 3 (.slice (some ⟨g, 0, none⟩) bl hl) bl (flat b)) := by have h1 := HG1.out.own; rw [HBL.out] at h1; exact h1
        have HAP : Hid (∀ w2, w2.ownsRow g 38 3 (.slice (some ⟨g, 0, none⟩) (bl + 1) hl) (bl + 1) (flat b ++ flat [(t, a, x)]) → (wr.drew.alloc (.cells #[.int .i64 t, .int .i64 a, .int .i64 x] 38)).grownBy w2 (some g) →
            w2.cell? ⟨p0, 0, none⟩ = some (.slice (some ⟨g, 0, none⟩) bl hl) ∧ w2.frozen? ⟨p0, 0, none⟩ = false ∧ GrAt (w2.setCell ⟨p0, 0, none⟩ (.slice (some ⟨g, 0, none⟩) (bl + 1) hl)) p0 p1 p2 p3 g hl had hc (.func (.func N) #[] caps) (b ++ [(t, a, x)]) ∧ TurnM (fun k => k = p0 ∨ k = g) wr (w2.setCell ⟨p0, 0, none⟩ (.slice (some ⟨g, 0, none⟩) (bl + 1) hl))) := by
          intro w2 how2 hgr2
          have hta : TurnM (fun k => k = g) wr w2 := (((TurnM.refl _ wr).drew).alloc _).grown hgr2 fun k hk => by simpa using hk.symm
          have hpg : ¬ p0 = g := HF.out.ne.2.2.2.1
          have e0 := hta.cell HG1.out.order hpg
          have e1 := (hta.thaw (p := ⟨p0, 0, none⟩) hp0 hpg).trans HG1.out.thaw
          rw [HBL.out] at e0
          have hts : TurnM (fun k => k = p0 ∨ k = g) wr (w2.setCell ⟨p0, 0, none⟩ (.slice (some ⟨g, 0, none⟩) (bl + 1) hl)) := TurnM.set (hta.mono fun k hk => .inr hk) (p := ⟨p0, 0, none⟩) (.inl rfl) _
          have hlen : (b ++ [(t, a, x)]).length = bl + 1 := by rw [List.length_append, HBL.out]; rfl
          refine ⟨e0, e1, HG1.out.put HF.out hts ?_ (by rw [World.frozen?_setCell]; exact e1) ?_, hts⟩
          · rw [hlen]; exact World.cell?_setCell_same _ _ _ e0
          · rw [hlen, flat_append]; exact ownsRow_setCell_other how2 hpg _
        clear r1 r2 r3 r4 hI1 hc1 hb1 hA hM hr hrl
        go_upto_region 7 with (fail)
        go_cut [7, 8, 9, 19] from 19 to 46 (fun v7 v8 _ v19 V => v7 = .int .i64 k ∧ v8 = .slice (some ⟨q, off, none⟩) (rl + 1) (C k) ∧ v19 = .int .i64 k ∧ GrAt V p0 p1 p2 p3 g hl had hc (.func (.func N) #[] caps) (b ++ [(t, a, x)]) ∧ TurnM (fun k => k = p0 ∨ k = g) wr V)
        case first =>
          go_region_law (refine step_append_fits rfl (.tmp 26) (.tmp 30) 22 rfl g 38 i0 (.agg #[.int .i64 0, .int .i64 0, .int .i64 0]) 3 24 Tryz.underlying22 HIO.out.1 HIO.out.2.1 HIO.out.2.2.1 HIO.out.2.2.2 rfl (by decide) g bl hl (flat b) (by simp [Act.eval]) (HOW.out.alloc _) ⟨wr.heap.size, 0, none⟩ 1 1 (flat [(t, a, x)]) (by simp [Act.eval]) rfl (op_oneM wr t a x) (flat_one _) (by omega) (by unfold maxLen; omega) (by omega) (by have := HG1.out.lt; simp; omega) ?_; intro w2 how2 hgr2; obtain ⟨e0, e1, e2, e3⟩ := HAP.out w2 how2 hgr2; have HK2 := hid_mm e2; have HK3 := hid_mm e3; clear e2 e3 how2 hgr2)
          all_goals
            go_wp2_with fail
          all_goals
            go_meet
            exact ⟨rfl, rfl, rfl, HK2.out, HK3.out⟩
        case rest =>
          obtain ⟨rfl, rfl, rfl, hg2, ht2⟩ := hcut
          clear c0 z0 hp0 hq0 k0 k1 k2 hrl0
          obtain ⟨V, hV⟩ : ∃ V, V = wc := ⟨_, rfl⟩
          rw [← hV] at hg2 ht2 ⊢
          have HG2 := hid_mm hg2
          have HT2 : Hid (TurnM (ChM T p0 g) wr V) := ht2.mono fun k hk => .inr hk
          have HI2 : Hid (I s1 V) := HT.out.keep s1 wr V _ (HT.out.live HLV0.out HGO.out) HI1.out ht2 fun k hk h => by
            have h1 := HF.out.far
            rcases h with rfl | rfl
            · exact h1.1 hk
            · exact h1.2.2.2.2 hk
          have HTV : Hid (TurnM (ChM T p0 g) W V) := HT1.out.trans HT2.out
          have HLV : Hid (LnAt V R A M C) := HLW.out.same (HTV.out.block R HLW.out.lt HRC.out)
          have a0 := HLV.out.cell (show 0 < 7 by decide)
          have a1 := HLV.out.cell (show 1 < 7 by decide)
          have a2 := HLV.out.cell (show 2 < 7 by decide)
          have a3 := HLV.out.cell (show 3 < 7 by decide)
          have a4 := HLV.out.cell (show 4 < 7 by decide)
          have a5 := HLV.out.cell (show 5 < 7 by decide)
          have a6 := HLV.out.cell (show 6 < 7 by decide)
          clear hV hg2 ht2
          go_upto_region 9 with (fail)
          obtain ⟨V1, hV1⟩ : ∃ X, X = V.alloc (.cells #[.slice (A 0) (M 0) (C 0), .slice (A 1) (M 1) (C 1), .slice (A 2) (M 2) (C 2), .slice (A 3) (M 3) (C 3), .slice (A 4) (M 4) (C 4), .slice (A 5) (M 5) (C 5), .slice (A 6) (M 6) (C 6)] 72) := ⟨_, rfl⟩
          obtain ⟨B2, hB2⟩ : ∃ B, B = V.heap.size := ⟨_, rfl⟩
          rw [← hV1, ← hB2]
          have HA1 : Hid (LnAt V1 B2 A M C) := by show LnAt _ _ _ _ _; rw [hV1, hB2]; exact ln_new V A M C
          have hb1 : Below V.heap.size V V1 := by rw [hV1]; exact (Below.refl _ V).alloc (Nat.le_refl _) _
          have HB2 : Hid (V.heap.size = B2) := hB2.symm
          have HTA := hid_mm (TurnM.below (A := fun _ => False) hb1)
          have ed := HA1.out.cell hk7
          have fd := HA1.out.thaw k
          clear hV1 hB2 hb1 a0 a1 a2 a3 a4 a5 a6
          go_upto_region 10 with (fail)
          have HA2 := hid_mm (HA1.out.set hk7 A1 rl c1)
          have HTB : Hid (TurnM (fun _ => False) V (V1.setCell ⟨B2, k, none⟩ (.slice A1 rl c1))) := HTA.out.setNew (by show V.heap.size ≤ B2; have := HB2.out; omega) _
          obtain ⟨V2, hV2⟩ : ∃ X, X = V1.setCell ⟨B2, k, none⟩ (.slice A1 rl c1) := ⟨_, rfl⟩
          rw [← hV2] at HA2 HTB ⊢
          obtain ⟨A2, hA2⟩ : ∃ f, f = updN A k A1 := ⟨_, rfl⟩
          obtain ⟨M2, hM2⟩ : ∃ f, f = updN M k rl := ⟨_, rfl⟩
          obtain ⟨C2, hC2⟩ : ∃ f, f = updN C k c1 := ⟨_, rfl⟩
          rw [← hA2, ← hM2, ← hC2] at HA2
          have HTW2 : Hid (TurnM (ChM T p0 g) W V2) := HTV.out.trans (HTB.out.mono fun _ h => h.elim)
          have HI2' : Hid (IsOps V2 (.slice A1 rl c1) r) := ((HT2.out.trans (HTB.out.mono fun _ h => h.elim))).ops HI1'.out HB1.out
          have hr0 := (HRR.out.turn HTW2.out)
          have HR2 : Hid (RowsN V2 (ChM T p0 g) A2 M2 C2 (rowSet rows k r)) := by
            refine ⟨?_, fun d hd => ?_, fun d hd => ?_, fun d hd => ?_⟩
            · unfold rowSet; rw [if_neg (by omega)]; exact hr0.none
            · rw [hM2, hC2]; unfold updN rowSet
              by_cases hdk : d = k
              · simp only [if_pos hdk]; exact ⟨HRL.out.symm, HC1.out⟩
              · simp only [if_neg hdk]; exact hr0.len d hd
            · rw [hA2, hM2, hC2]; unfold updN rowSet
              by_cases hdk : d = k
              · simp only [if_pos hdk]; exact HI2'.out
              · simp only [if_neg hdk]; exact hr0.ops d hd
            · rw [hA2, hM2, hC2]; unfold updN
              by_cases hdk : d = k
              · simp only [if_pos hdk]; exact HB1.out
              · simp only [if_neg hdk]; exact hr0.far d hd
          have HG3 : Hid (GrAt V2 p0 p1 p2 p3 g hl had hc (.func (.func N) #[] caps) (b ++ [(t, a, x)])) := HG2.out.turn HTB.out id id id id id
          have HI3 : Hid (I s1 V2) := HT.out.keep s1 V V2 _ (HT.out.live HLV0.out HGO.out) HI2.out HTB.out fun _ _ h => h
          have f3 := HG3.out.fn
          have HREC := hid_mm (HIH.out s1 (rowSet rows k r) (b ++ [(t, a, x)]) A2 M2 C2 had hc V2 (by rw [List.length_append, HBL.out]; have := HLN.out; simp; omega) HTS.out HR2.out HG3.out (HT.out.live HLV0.out HGO.out) HI3.out HGN.out)
          rw [← HPM.out] at HREC
          clear hV2 hA2 hM2 hC2 hr0 ed fd hrun ha hm0
          go_wp2_with (refine wpList_load_row rfl 72 (.tmp 9) rfl B2 rfl 72 (arrN A2 M2 C2) (0, 0) _ HA2.out Tryz.underlying72 rfl lanes_infoM ?_)
          refine HREC.out.mono ?_
          rintro e w4 ⟨rfl, hI4, ht4, hg4⟩
          have HT4 : Hid (TurnM (ChM T p0 g) W w4) := HTW2.out.trans ht4
          obtain ⟨⟨s2, u⟩, hsu⟩ : ∃ z, goO st ((partN n rows k).map (b ++ ·)) s1 = z := ⟨_, rfl⟩
          rw [hsu] at hI4 hg4 ⊢
          have HI4 : Hid (I s2 w4) := hI4
          have HG4 : Hid (u = true → GrAt w4 p0 p1 p2 p3 g hl had hc (.func (.func N) #[] caps) (b ++ [(t, a, x)])) := hg4
          have HSU : Hid (goO st ((mixUp n rows (k + 1)).map (b ++ ·)) s = (s2, u)) := by show _ = _; rw [mixUp_succ, List.map_append, goO_on HGO.out, hsu]
          clear hsu hI4 hg4 ht4 HREC f3
          cases u with
          | false =>
            have HST : Hid (goO st ((mixG (n + 1) rows).map (b ++ ·)) s = (s2, false)) := by
              show _ = _
              obtain ⟨m, hm⟩ := mixUp_pre n rows (show k + 1 ≤ 7 by omega)
              rw [← HUP.out, hm, List.map_append, goO_stop HSU.out]
            go_wp2_with fail
            go_ret
            rw [HST.out]
            exact ⟨rfl, HI4.out, HTW.out.trans HT4.out, fun h => by cases h⟩
          | true =>
            have hg5 := HG4.out rfl
            have HG5 := hid_mm hg5
            have d0 := hg5.order
            have d1 := hg5.thaw
            have hlen : (b ++ [(t, a, x)]).length = bl + 1 := by rw [List.length_append, HBL.out]; rfl
            rw [hlen] at d0
            have hown := hg5.own
            rw [hlen] at hown
            have HOW5 : Hid (w4.ownsRow g 38 3 (.slice (some ⟨g, 0, none⟩) bl hl) bl (flat b)) := by
              have h1 := ops_takeN hown (show bl ≤ bl + 1 by omega) hlen
              rw [List.take_left' HBL.out] at h1
              exact h1
            have HSET : Hid (TurnM (fun k => k = p0 ∨ k = g) w4 (w4.setCell ⟨p0, 0, none⟩ (.slice (some ⟨g, 0, none⟩) bl hl))) := TurnM.set (TurnM.refl _ w4) (p := ⟨p0, 0, none⟩) (.inl rfl) _
            have HG6 : Hid (GrAt (w4.setCell ⟨p0, 0, none⟩ (.slice (some ⟨g, 0, none⟩) bl hl)) p0 p1 p2 p3 g hl had hc (.func (.func N) #[] caps) b) := by
              refine hg5.put HF.out HSET.out ?_ (by rw [World.frozen?_setCell]; exact d1) ?_
              · rw [HBL.out]; exact World.cell?_setCell_same _ _ _ d0
              · rw [HBL.out]; exact ownsRow_setCell_other HOW5.out HF.out.ne.2.2.2.1 _
            have HI6 : Hid (I s2 (w4.setCell ⟨p0, 0, none⟩ (.slice (some ⟨g, 0, none⟩) bl hl))) := HT.out.keep s2 _ _ _ (HT.out.live HLV0.out HSU.out) HI4.out HSET.out fun k hk h => by
              have h1 := HF.out.far
              rcases h with rfl | rfl
              · exact h1.1 hk
              · exact h1.2.2.2.2 hk
            have hbh : bl ≤ hl := by omega
            clear hg5 hown hlen
            go_wp2_with fail
            go_roundw
            case rel => exact ⟨k + 1, s2, by omega, by go_num, HSU.out, HI6.out, HG6.out, HT4.out.trans (HSET.out.mono fun k hk => .inr hk)⟩
            case measure => simp [intOf]; omega
    · have hk' : ¬ (k : Int) < 7 := by omega
      obtain rfl : k = 7 := by omega
      go_wp2_with fail
      go_ret
      have h1 := HGO.out
      rw [HUP.out] at h1
      rw [h1]
      exact ⟨rfl, HI1.out, HTW.out.trans HT1.out, fun _ => HG1.out⟩
theorem grow_anyM {S : Type} {st : S → List Op3 → S × Bool} {I : S → World → Prop} {L : S → Prop} {T : Nat → Prop} {G : List Op3 → Prop} {hl N : Nat} {caps : Array Value} {p0 p1 p2 p3 g : Nat} (hT : TakeOk st I L T G hl N caps) (hF : FarM T p0 p1 p2 p3 g) (hl8 : hl ≤ 8) (n : Nat) : MGrowOk st I L T G hl N caps p0 p1 p2 p3 g n := by
  induction n with
  | zero => exact grow_zeroM hT hF
  | succ n ih => exact grow_succM hT hF hl8 n ih
end Go.Proofs.YtmjjiehnjghndaaGreat
