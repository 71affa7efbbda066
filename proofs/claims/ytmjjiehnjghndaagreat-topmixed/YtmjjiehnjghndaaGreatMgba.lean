/-
  PROVED HERE: serial.weave lays rising numbers between those of an order, each as soon as it is less than the next one of these. Old memory stays as it was.
  Conditions: both lists are of at most 10 numbers.
  PROVED HERE: slices.DeleteFunc, with the closure of serial.Order, at a list of numbers that the call itself has made: what is left are those that are not in the order. Nothing else turns.
  Conditions: the order is of at most 10 numbers and lies in other memory.
-/
import Derived.Test.YtmjjiehnjghndaaGreatMgaz
import Derived.Test.YtmjjiehnjghndaaGreatMgag
import Derived.BigQuiet
namespace Go.Proofs.YtmjjiehnjghndaaGreat
open Go.RowKit

/-- A slice value that holds a list of numbers, and may be cut anywhere within its length. -/
def IsRow (w : World) (v : Value) (l : List Int) : Prop :=
  ∃ (ad : Option Addr) (b off cap : Nat), v = .slice ad l.length cap ∧ l.length ≤ cap ∧ (0 < l.length → ad = some ⟨b, off, none⟩) ∧ (ad = none → cap = 0) ∧ (b < w.heap.size ∨ l = []) ∧ ∀ i, i < l.length → w.cell? ⟨b, off + i, none⟩ = some (.int .i64 (l.getD i 0))
theorem weave_end {b : Int} {bs fr : List Int} (h : ∀ f r, fr = f :: r → ¬ f < b) : weaveL (b :: bs) fr = b :: weaveL bs fr := by
  cases fr with
  | nil => simp [weaveL]
  | cons f r => exact weave_pass (h f r rfl)
/-- How long a list of numbers is that a value holds. -/
def rowN : Value → Nat
  | .slice _ n _ => n
  | _ => 0

set_option maxHeartbeats 8000000 in
set_option maxRecDepth 100000 in
theorem weave_any (bs fr : List Int) (u v : Value) (w : World) (hu : IsInts w u bs) (hv : IsRow w v fr) (hbl : bs.length ≤ 10) (hfl : fr.length ≤ 10) :
    Calls Tryz.prog 25 #[u, v] w fun e w' => ∃ v', e = .returned v' ∧ IsInts w' v' (weaveL bs fr) ∧ Below w.heap.size w w' := by
  obtain ⟨ad, b, off, cap, rfl, ha, -, hbB, hc⟩ := hu
  have HU : Hid (∀ W, Below w.heap.size w W → ∀ k, k < bs.length → ad = some ⟨b, off, none⟩ ∧ W.cell? ⟨b, off + k, none⟩ = some (.int .i64 (bs.getD k 0))) := fun W hW k hk => by
    have hb : b < w.heap.size := by
      rcases hbB with h | h
      · exact h
      · subst h; simp at hk
    exact ⟨ha (by omega), (hW.cell (p := ⟨b, off + k, none⟩) hb).trans (hc k hk)⟩
  have HV : Hid (IsRow w v fr) := hv
  have HW : Hid (∀ out fr' k, weaveL bs fr = out ++ weaveL (bs.drop k) fr' → out.length ≤ 20) := fun out fr' k h => by
    have h1 := congrArg List.length h
    rw [weave_len, List.length_append] at h1
    omega
  obtain ⟨i0, hi, hz0, hs0, hy0⟩ := info_parts infoInt
  have HT : Hid (Tryz.prog.info? 3 = some i0 ∧ i0.zero = some (.int .i64 0) ∧ i0.size = 1 ∧ i0.bytes = 8) := ⟨hi, hz0, hs0, hy0⟩
  clear hi hz0 hs0 hy0 ha hbB hc hv
  go_enter Tryz.func25, Tryz.ntmps25
  go_wp2_with fail
  go_loopw [1, 5, 10] (fun v1 v5 v10 wr => ∃ (k : Nat) (out fr' : List Int), k ≤ bs.length ∧ v10 = .int .i64 k ∧ IsRow w v1 fr' ∧ weaveL bs fr = out ++ weaveL (bs.drop k) fr' ∧ wr.ownsRow w.heap.size 3 1 v5 out.length (out.map (Value.int .i64)) ∧ Below w.heap.size w wr) (fun _ _ v10 _ => bs.length - (intOf v10).toNat)
  case atStart => exact ⟨0, [], fr, Nat.zero_le _, rfl, HV.out, rfl, World.ownsRow_nil _ _ _ _, Below.refl _ _⟩
  case round =>
    obtain ⟨WR, hWR⟩ : ∃ W : World, W = wr := ⟨_, rfl⟩
    subst hWR
    obtain ⟨k, out, fr', hk, rfl, hrow, hwv, hown, hbel⟩ := hrel
    have HR : Hid (IsRow w u1 fr') := hrow
    have HWV : Hid (weaveL bs fr = out ++ weaveL (bs.drop k) fr') := hwv
    have HOWN : Hid (WR.ownsRow w.heap.size 3 1 u5 out.length (out.map (Value.int .i64))) := hown
    have hol := HW.out _ _ _ hwv
    clear hrow hwv hown
    by_cases hlt : k < bs.length
    · have hlt' : (k : Int) < (bs.length : Int) := by omega
      obtain ⟨hadr, c0⟩ := HU.out WR hbel k hlt
      subst hadr
      obtain ⟨t, ht⟩ : ∃ t, bs.getD k 0 = t := ⟨_, rfl⟩
      rw [ht] at c0
      have HDR : Hid (bs.drop k = t :: bs.drop (k + 1)) := by
        show bs.drop k = t :: bs.drop (k + 1)
        rw [List.drop_eq_getElem_cons hlt, ← ht]; simp [List.getD, List.getElem?_eq_getElem hlt]
      clear ht
      go_wp2_with fail
      go_loopw [1, 5] (fun v1 v5 wx => ∃ (out fr' : List Int), IsRow w v1 fr' ∧ weaveL bs fr = out ++ weaveL (bs.drop k) fr' ∧ wx.ownsRow w.heap.size 3 1 v5 out.length (out.map (Value.int .i64)) ∧ Below w.heap.size w wx) (fun v1 _ _ => rowN v1)
      case atStart => exact ⟨out, fr', HR.out, HWV.out, HOWN.out, hbel⟩
      case round =>
        clear HR HWV HOWN hol hbel c0
        obtain ⟨out, fr', hrow, hwv, hown, hbel⟩ := hrel
        have hol := HW.out _ _ _ hwv
        have HWV : Hid (weaveL bs fr = out ++ weaveL (bs.drop k) fr') := hwv
        have HOWN : Hid (wr.ownsRow w.heap.size 3 1 u5 out.length (out.map (Value.int .i64))) := hown
        have HR : Hid (IsRow w u1 fr') := hrow
        have hsz := hbel.size
        obtain ⟨n, hn⟩ : ∃ n, out.length = n := ⟨_, rfl⟩
        rw [hn] at HOWN hol
        have HN : Hid (out.length = n) := hn
        clear hwv hown hn
        obtain ⟨adf, bf, offf, capf, rfl, hcap, haf, -, hbf, hcf⟩ := hrow
        cases fr' with
        | nil =>
          have HQ : Hid (weaveL bs fr = (out ++ [t]) ++ weaveL (bs.drop (k + 1)) []) := by
            show weaveL bs fr = (out ++ [t]) ++ weaveL (bs.drop (k + 1)) []
            rw [HWV.out, HDR.out, weave_end (fun f r h => by cases h)]; simp
          clear haf hbf hcf hcap
          go_wp2_with (at_builtin; refine wpList_append_own _ rfl (.tmp 32) (.tmp 34) 28 rfl w.heap.size 3 i0 (.int .i64 0) 1 8 Tryz.underlying28 HT.out.1 HT.out.2.1 HT.out.2.2.1 HT.out.2.2.2 rfl (by decide) u5 n (out.map (Value.int .i64)) rfl (HOWN.out.alloc _) ⟨wr.heap.size, 0, none⟩ 1 1 [.int .i64 t] rfl rfl (cell_one_new _ _ _) (by simp [Value.oneCell']) (by unfold maxLen; omega) (by omega) (by simp; omega) ?_; intro v2 w2 hown2 hgr2 hnil2)
          have hB2 := (hbel.alloc hsz _).grown hgr2 (by simp; omega) (fun m hm => (HOWN.out.lt m hm).1)
          go_roundw
          case rel => exact ⟨k + 1, out ++ [t], [], by omega, by go_num, HR.out, HQ.out, by simpa [HN.out] using hown2, hB2⟩
          case measure => simp [intOf]; omega
        | cons f r =>
          obtain rfl := haf (by simp)
          have hblt : bf < w.heap.size := by
            rcases hbf with h | h
            · exact h
            · cases h
          have f0 := (hbel.cell (p := ⟨bf, offf + 0, none⟩) hblt).trans (hcf 0 (by simp))
          simp only [Nat.add_zero, List.getD_cons_zero] at f0
          have HC : Hid (∀ i, i < r.length → w.cell? ⟨bf, offf + 1 + i, none⟩ = some (.int .i64 (r.getD i 0))) := fun i hi => by
            have := hcf (i + 1) (by simpa using hi)
            rw [show offf + 1 + i = offf + (i + 1) by omega]
            simpa using this
          obtain ⟨m, hm⟩ : ∃ m, (f :: r).length = m := ⟨_, rfl⟩
          have hm1 : 1 ≤ m := by rw [← hm]; simp
          have HM : Hid (r.length + 1 = m) := by show r.length + 1 = m; rw [← hm]; rfl
          rw [hm] at hcap ⊢
          have hmp : (0 : Int) < (m : Int) := by omega
          clear hm haf hbf hcf
          by_cases hft : f < t
          · have HQ : Hid (weaveL bs fr = (out ++ [f]) ++ weaveL (bs.drop k) r) := by
              show weaveL bs fr = (out ++ [f]) ++ weaveL (bs.drop k) r
              rw [HWV.out, HDR.out, weave_take hft]; simp
            have HRR : Hid (IsRow w (.slice (if capf = 1 then some ⟨bf, offf, none⟩ else some ⟨bf, offf + 1, none⟩) (m - 1) (capf - 1)) r) := ⟨_, bf, offf + 1, capf - 1, by rw [show r.length = m - 1 by have := HM.out; omega], by have := HM.out; omega, fun h => if_neg (by have := HM.out; omega), fun h => (by split at h <;> cases h), .inl hblt, HC.out⟩
            go_wp2_with (at_builtin; refine wpList_append_own _ rfl (.tmp 24) (.tmp 28) 28 rfl w.heap.size 3 i0 (.int .i64 0) 1 8 Tryz.underlying28 HT.out.1 HT.out.2.1 HT.out.2.2.1 HT.out.2.2.2 rfl (by decide) u5 n (out.map (Value.int .i64)) rfl (HOWN.out.alloc _) ⟨wr.heap.size, 0, none⟩ 1 1 [.int .i64 f] rfl rfl (cell_one_new _ _ _) (by simp [Value.oneCell']) (by unfold maxLen; omega) (by omega) (by simp; omega) ?_; intro v2 w2 hown2 hgr2 hnil2)
            have hB2 := (hbel.alloc hsz _).grown hgr2 (by simp; omega) (fun m hm => (HOWN.out.lt m hm).1)
            go_roundw
            case rel => exact ⟨out ++ [f], r, HRR.out, HQ.out, by simpa [HN.out] using hown2, hB2⟩
            case measure => simp [rowN]; omega
          · have HQ : Hid (weaveL bs fr = (out ++ [t]) ++ weaveL (bs.drop (k + 1)) (f :: r)) := by
              show weaveL bs fr = (out ++ [t]) ++ weaveL (bs.drop (k + 1)) (f :: r)
              rw [HWV.out, HDR.out, weave_pass hft]; simp
            go_wp2_with (at_builtin; refine wpList_append_own _ rfl (.tmp 32) (.tmp 34) 28 rfl w.heap.size 3 i0 (.int .i64 0) 1 8 Tryz.underlying28 HT.out.1 HT.out.2.1 HT.out.2.2.1 HT.out.2.2.2 rfl (by decide) u5 n (out.map (Value.int .i64)) rfl (HOWN.out.alloc _) ⟨wr.heap.size, 0, none⟩ 1 1 [.int .i64 t] rfl rfl (cell_one_new _ _ _) (by simp [Value.oneCell']) (by unfold maxLen; omega) (by omega) (by simp; omega) ?_; intro v2 w2 hown2 hgr2 hnil2)
            have hB2 := (hbel.alloc hsz _).grown hgr2 (by simp; omega) (fun m hm => (HOWN.out.lt m hm).1)
            go_roundw
            case rel => exact ⟨k + 1, out ++ [t], f :: r, by omega, by go_num, by have h1 := HR.out; rw [show (f :: r).length = m by have := HM.out; simpa using this] at h1; exact h1, HQ.out, by simpa [HN.out] using hown2, hB2⟩
            case measure => simp [intOf]; omega
    · have hlt' : ¬ (k : Int) < (bs.length : Int) := by omega
      have HQ : Hid (weaveL bs fr = out ++ fr') := by
        show weaveL bs fr = out ++ fr'
        rw [HWV.out, List.drop_of_length_le (by omega)]; rfl
      have hsz := hbel.size
      have hfl' : fr'.length ≤ 20 := by
        have h1 := congrArg List.length HQ.out
        rw [weave_len, List.length_append] at h1
        omega
      obtain ⟨adf, bf, offf, capf, rfl, hcap, haf, hnf, hbf, hcf⟩ := HR.out
      obtain ⟨n, hn⟩ : ∃ n, out.length = n := ⟨_, rfl⟩
      rw [hn] at HOWN hol
      have HN : Hid (out.length = n) := hn
      clear hn HR
      cases fr' with
      | nil =>
        clear haf hbf hcf hcap
        have HF : Hid (IsInts WR u5 (weaveL bs fr)) := by
          show IsInts WR u5 (weaveL bs fr)
          rw [HQ.out, List.append_nil]
          exact isInts_own HOWN.out HN.out
        cases adf with
        | none =>
          obtain rfl := hnf rfl
          clear hnf
          go_wp2_with (at_builtin; refine wpList_append_own_none rfl (.tmp 37) (.tmp 38) 28 rfl w.heap.size 3 i0 1 Tryz.underlying28 HT.out.1 u5 n (out.map (Value.int .i64)) rfl HOWN.out rfl ?_)
          go_ret
          exact ⟨_, rfl, HF.out, hbel⟩
        | some a =>
          clear hnf
          go_wp2_with (at_builtin; refine wpList_append_own _ rfl (.tmp 37) (.tmp 38) 28 rfl w.heap.size 3 i0 (.int .i64 0) 1 8 Tryz.underlying28 HT.out.1 HT.out.2.1 HT.out.2.2.1 HT.out.2.2.2 rfl (by decide) u5 n (out.map (Value.int .i64)) rfl HOWN.out a 0 capf [] rfl rfl (fun j u hj => by simp at hj) (fun u hu => by cases hu) (by unfold maxLen; omega) (by omega) (by omega) ?_; intro v2 w2 hown2 hgr2 hnil2)
          have hB2 := hbel.grown hgr2 hsz (fun m hm => (HOWN.out.lt m hm).1)
          go_ret
          refine ⟨_, rfl, ?_, hB2⟩
          rw [HQ.out, List.append_nil]
          exact isInts_own (n := n) (by simpa using hown2) HN.out
      | cons f r =>
        obtain rfl := haf (by simp)
        have hblt : bf < w.heap.size := by
          rcases hbf with h | h
          · exact h
          · cases h
        have HS : Hid (∀ j u, ((f :: r).map (Value.int .i64))[j]? = some u → WR.cell? ⟨bf, offf + j, none⟩ = some u) := fun j u hj => by
          rw [List.getElem?_map] at hj
          obtain ⟨x, hx, rfl⟩ := Option.map_eq_some_iff.1 hj
          have hj' := (List.getElem?_eq_some_iff.1 hx).1
          rw [hbel.cell (p := ⟨bf, offf + j, none⟩) hblt, hcf j hj']
          simp [List.getD, hx]
        obtain ⟨m, hm⟩ : ∃ m, (f :: r).length = m := ⟨_, rfl⟩
        rw [hm] at hcap hfl' ⊢
        have HM : Hid ((f :: r).length = m) := hm
        clear haf hbf hcf hm hnf
        go_wp2_with (at_builtin; refine wpList_append_own _ rfl (.tmp 37) (.tmp 38) 28 rfl w.heap.size 3 i0 (.int .i64 0) 1 8 Tryz.underlying28 HT.out.1 HT.out.2.1 HT.out.2.2.1 HT.out.2.2.2 rfl (by decide) u5 n (out.map (Value.int .i64)) rfl HOWN.out ⟨bf, offf, none⟩ m capf ((f :: r).map (Value.int .i64)) rfl (by rw [List.length_map, HM.out, Nat.mul_one]) (fun j u hj => by rw [Addr.add_lit]; exact HS.out j u hj) (fun u hu => by obtain ⟨k, _, rfl⟩ := List.mem_map.1 hu; rfl) (by unfold maxLen; omega) (by omega) (by omega) ?_; intro v2 w2 hown2 hgr2 hnil2)
        have hB2 := hbel.grown hgr2 hsz (fun m hm => (HOWN.out.lt m hm).1)
        go_ret
        refine ⟨_, rfl, ?_, hB2⟩
        rw [HQ.out]
        exact isInts_own (n := n + m) (by rw [List.map_append]; exact hown2) (by rw [List.length_append, HN.out, HM.out])
end Go.Proofs.YtmjjiehnjghndaaGreat

namespace Go.Proofs.YtmjjiehnjghndaaGreat
open Go.RowKit Go.Sort

/-- The closure of serial.Order, in whatever world holds the order. -/
theorem bound_gives (bs : List Int) (bv : Value) (c : Nat) (x : Int) (W : World) (hc : W.cell? ⟨c, 0, none⟩ = some bv) (hI : IsInts W bv bs) (hl : bs.length ≤ 10) :
    FnGives Tryz.prog 23 #[.pointer (some ⟨c, 0, none⟩)] #[.int .i64 x] (.bool (inB bs x)) W := by
  show Calls Tryz.prog 23 #[.int .i64 x, .pointer (some ⟨c, 0, none⟩)] W _
  go_enter Tryz.func23, Tryz.ntmps23
  go_wp2_with (go_at_call 24; refine (contains_ints bs bv x _ hI (by omega)).mono ?_; rintro e w' ⟨rfl, rfl⟩)
  go_ret
  exact ⟨rfl, 0, rfl⟩
theorem grown_of_belowD {w W : World} {row : Option Nat} (h : Below w.heap.size w W) : w.grownBy W row := ⟨h.os, h.tape, h.output, h.size, fun k hk _ => h.block k hk⟩
set_option maxHeartbeats 2000000 in
theorem delete_own (ds bs : List Int) (v bv : Value) (c base n : Nat) (w : World) (hn : ds.length = n) (hl : ds.length ≤ 10) (hb : bs.length ≤ 10) (h : w.ownsRow base 3 1 v n (ds.map (Value.int .i64)))
    (hB : ∀ W, w.grownBy W v.ownBlock → W.cell? ⟨c, 0, none⟩ = some bv ∧ IsInts W bv bs) :
    Calls Tryz.prog 26 #[v, .func (.func 23) #[] #[.pointer (some ⟨c, 0, none⟩)]] w fun e w' => ∃ v', e = .returned v' ∧ IsRow w' v' (ds.filter fun x => !inB bs x) ∧ w.grownBy w' v.ownBlock := by
  subst hn
  obtain ⟨h0, ⟨hv, hz⟩ | ⟨g, cap, cur, hv, hbase, hb1, h1, h2, h3, h4⟩⟩ := h
  · subst hv
    have e0 : ds = [] := List.length_eq_zero_iff.1 hz
    subst e0
    clear hB h0 hz
    go_enter Tryz.func26, Tryz.ntmps26
    go_wp2_with (go_at_call 49; refine (AnyE.slices_IndexFunc_empty Tryz.laysSlH6_f49 none 0 _ _).mono ?_; rintro e w' ⟨rfl, rfl⟩)
    go_ret
    exact ⟨_, rfl, ⟨none, 0, 0, 0, rfl, Nat.le_refl _, fun h => absurd h (by simp), fun _ => rfl, .inr rfl, fun i hi => by simp at hi⟩, ⟨rfl, rfl, rfl, Nat.le_refl _, fun _ _ _ => rfl⟩⟩
  · subst hv
    have eg : ∀ args w, (callFunc 23 args).run Tryz.prog w = .ok (.enter 23 args) w := enters_of Tryz.func23 (by kernel_rfl) rfl
    have hcon := AnyE.slices_DeleteFunc Tryz.laysSlH10_f26 (Value.int .i64) (fun _ => rfl) (fun x => inB bs x) 23 #[.pointer (some ⟨c, 0, none⟩)] eg 0 Tryz.zeroValue3 g 0 cap ds.toArray w
      (fun W x hbw => bound_gives bs bv c x W (hB W (grown_of_belowD hbw)).1 (hB W (grown_of_belowD hbw)).2 hb)
      (fun q os dk x _ => bound_gives bs bv c x _ (hB _ (grownBy_sortedI dk)).1 (hB _ (grownBy_sortedI dk)).2 hb)
      (holds_of_blockI hb1 (by simpa using h4)) (by simp; omega) (by simpa using h1)
    have e1 : ds.toArray.toList = ds := rfl
    have e2 : ds.toArray.size = ds.length := rfl
    rw [e1, e2] at hcon
    change Calls Tryz.prog 26 _ _ _ at hcon
    refine hcon.mono ?_
    rintro e w' ⟨he, q, hw⟩
    obtain ⟨fs, hfs⟩ : ∃ fs, (ds.filter fun x => !inB bs x) = fs := ⟨_, rfl⟩
    have hfl : fs.length ≤ ds.length := by rw [← hfs]; exact List.length_filter_le ..
    rw [hfs] at he hw ⊢
    have hrow := ownsRow_sortedI (w := w) (n := q) (os := #[]) (e := 3) (ts := fs ++ List.replicate (ds.length - fs.length) 0) (by simp; omega) hbase hb1 h1 h2 h3
    have hgr := grownBy_sortedI (w := w) (g := g) (n := q) (os := #[]) (fs ++ List.replicate (ds.length - fs.length) 0).toArray
    rw [grow_empty, ← hw] at hrow hgr
    refine ⟨_, he, ⟨some ⟨g, 0, none⟩, g, 0, cap, rfl, by omega, fun _ => rfl, fun h => (by cases h), .inl (by have := (hrow.lt g rfl).2; exact this), fun i hi => ?_⟩, hgr⟩
    have := hrow.cells (g := g) rfl i (.int .i64 (fs.getD i 0)) (by
      rw [List.getElem?_map, List.getElem?_append_left hi]
      simp [List.getD, List.getElem?_eq_getElem hi])
    rw [Addr.add_lit] at this
    exact this
end Go.Proofs.YtmjjiehnjghndaaGreat
