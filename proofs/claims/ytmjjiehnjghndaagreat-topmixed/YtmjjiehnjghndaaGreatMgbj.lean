/-
  PROVED HERE: mix.eachOrder hands all orders of the ops of a right history to a closure, sorted, as long as that wants more. Of old memory just what the closure turns turns.
  Conditions: there are at most 8 ops; what the closure that is handed in does is a premise.
  PROVED HERE: mix.check tells what is wrong with a history that is to be mixed; mix.Count tells how many orders there are; of what is wrong each gives the error. Old memory stays as it was.
  Conditions: none.
  (Of these, what the claim wants: the rest was left out.)
-/
import Derived.Test.YtmjjiehnjghndaaGreatMgbi
namespace Go.Proofs.YtmjjiehnjghndaaGreat
open Go.RowKit

theorem mstore_func {P : Program} (w : World) (f : Fn) (ts cs : Array Value) (old : Value) (T : TypeId) (n : Nat) (hn : n = w.heap.size) :
    (store ⟨n, 0, none⟩ (.func f ts cs)).run P (w.alloc (.cells #[old] T)) = .ok () (w.alloc (.cells #[.func f ts cs] T)) := by
  subst hn
  rw [run_store _ _ _ _ _ rfl]
  simp [World.setCell_alloc_new]
set_option maxHeartbeats 8000000 in
theorem each_anyM {S : Type} {st : S → List Op3 → S × Bool} {I : S → World → Prop} {L : S → Prop} {T : Nat → Prop} {G : List Op3 → Prop} {N : Nat} {caps : Array Value} (l : List Op3) (had : Option Addr) (hc : Nat) (s : S) (w : World)
    (hT : TakeOk st I L T G l.length N caps) (hop : IsOps w (.slice had l.length hc) l) (hd : ∀ o ∈ l, 1 ≤ o.1 ∧ o.1 ≤ 6) (hl8 : l.length ≤ 8) (hlim : ∀ k, T k → k < w.heap.size) (hL : L s) (hI : I s w) (hG : ∀ y ∈ mixL l, G y) :
    Calls Tryz.prog 13 #[.slice had l.length hc, .func (.func N) #[] caps] w fun e w' => e = .returned (.tuple #[]) ∧ I (goO st (mixL l) s).1 w' ∧ TurnM T w w' := by
  obtain ⟨i0, hi, hz0, hs0, hy0⟩ := info_parts infoOp
  have HIO : Hid (Tryz.prog.info? 38 = some i0 ∧ i0.zero = some (.agg #[.int .i64 0, .int .i64 0, .int .i64 0]) ∧ i0.size = 3 ∧ i0.bytes = 24) := ⟨hi, hz0, hs0, hy0⟩
  have HT := hid_mm hT
  have HOP := hid_mm hop
  have HD := hid_mm hd
  have HLIM := hid_mm hlim
  have HI := hid_mm hI
  have HLV0 := hid_mm hL
  have HG := hid_mm hG
  obtain ⟨n, hn⟩ : ∃ n, l.length = n := ⟨_, rfl⟩
  have HN := hid_mm hn
  rw [hn] at hl8 HT HOP ⊢
  clear hi hz0 hs0 hy0 hT hop hd hlim hL hI hG hn
  go_enter Tryz.func13, Tryz.ntmps13
  go_upto_region 1 with (fail)
  obtain ⟨W0, hW0⟩ : ∃ X, X = (w.alloc (.cells #[.slice had n hc] 22)).alloc (.cells #[.func (.func N) #[] caps] 42) := ⟨_, rfl⟩
  rw [← hW0]
  obtain ⟨p1, hp1⟩ : ∃ p, p = w.heap.size := ⟨_, rfl⟩
  have b0 : Below w.heap.size w W0 := by rw [hW0]; exact ((Below.refl _ w).alloc (Nat.le_refl _) _).alloc (by simp) _
  have s0 : W0.heap.size = w.heap.size + 2 := by rw [hW0]; simp
  have c1 : W0.cell? ⟨p1, 0, none⟩ = some (.slice had n hc) := by rw [hW0, hp1]; simp
  have c2 : W0.cell? ⟨p1 + 1, 0, none⟩ = some (.func (.func N) #[] caps) := by rw [hW0, hp1]; simp
  rw [← hp1]
  have HB0 := hid_mm b0
  have HP1 := hid_mm hp1
  have HC2 := hid_mm c2
  have HC1 := hid_mm c1
  have hp1W : p1 + 2 = W0.heap.size := by omega
  have HP2 := hid_mm hp1W
  clear hW0 hp1 b0 s0 c2 hp1W
  go_upto_region 2 with (at_make; refine wpList_make_own _ rfl (.const (.int .i64 0)) (.tmp 7) 22 rfl W0.heap.size 38 i0 (.agg #[.int .i64 0, .int .i64 0, .int .i64 0]) 3 Tryz.underlying22 HIO.out.1 HIO.out.2.1 HIO.out.2.2.1 .i64 .i64 (n : Int) n rfl rfl rfl (by rw [HIO.out.2.2.2]; omega) (by unfold maxLen; omega) (Nat.le_refl _) ?_; intro w1 hown1 hgr1)
  obtain ⟨g, hg⟩ : ∃ g, g = W0.heap.size := ⟨_, rfl⟩
  rw [← hg] at hown1 ⊢
  have hg1 : g < w1.heap.size := (hown1.lt g rfl).2
  have b1 : Below W0.heap.size W0 w1 := (Below.refl _ W0).grown hgr1 (Nat.le_refl _) (fun q hq => by cases hq)
  have HOWN1 := hid_mm hown1
  have HB1 := hid_mm b1
  have HGE := hid_mm hg
  have HG1 := hid_mm hg1
  clear hown1 hgr1 b1 hg c1
  go_upto_region 4 with (fail)
  rw [mstore_func _ _ _ _ _ _ _ (by simp)]
  go_upto_region 4 with (fail)
  obtain ⟨p0, hp0⟩ : ∃ p, p = w1.heap.size := ⟨_, rfl⟩
  rw [← hp0]
  obtain ⟨V, hV⟩ : ∃ X, X = (w1.alloc (.cells #[.slice (some ⟨g, 0, none⟩) 0 n] 22)).alloc (.cells #[.func (.func 31) #[] #[.pointer (some ⟨p0, 0, none⟩), .pointer (some ⟨p1, 0, none⟩), .pointer (some ⟨p1 + 1, 0, none⟩), .pointer (some ⟨p0 + 1, 0, none⟩)]] 70) := ⟨_, rfl⟩
  rw [← hV]
  have hb2 : Below w1.heap.size w1 V := by rw [hV]; exact ((Below.refl _ w1).alloc (Nat.le_refl _) _).alloc (by simp) _
  have hsV : V.heap.size = p0 + 2 := by rw [hV, hp0]; simp
  have e0 : V.cell? ⟨p0, 0, none⟩ = some (.slice (some ⟨g, 0, none⟩) 0 n) := by rw [hV, hp0]; simp
  have z0 : V.frozen? ⟨p0, 0, none⟩ = false := by rw [hV, hp0]; simp
  have e3 : V.cell? ⟨p0 + 1, 0, none⟩ = some (.func (.func 31) #[] #[.pointer (some ⟨p0, 0, none⟩), .pointer (some ⟨p1, 0, none⟩), .pointer (some ⟨p1 + 1, 0, none⟩), .pointer (some ⟨p0 + 1, 0, none⟩)]) := by rw [hV, hp0]; simp
  have hb0V : Below W0.heap.size W0 V := HB1.out.trans (hb2.mono HB1.out.size)
  have hp2 := HP2.out
  have hgg := HGE.out
  have hg1 := HG1.out
  have e1 : V.cell? ⟨p1, 0, none⟩ = some (.slice had n hc) := (hb0V.cell (p := ⟨p1, 0, none⟩) (by show p1 < W0.heap.size; omega)).trans HC1.out
  have e2 : V.cell? ⟨p1 + 1, 0, none⟩ = some (.func (.func N) #[] caps) := (hb0V.cell (p := ⟨p1 + 1, 0, none⟩) (by show p1 + 1 < W0.heap.size; omega)).trans HC2.out
  have hbV : Below w.heap.size w V := HB0.out.trans (hb0V.mono HB0.out.size)
  have HGA : Hid (GrAt V p0 p1 (p1 + 1) (p0 + 1) g n had hc (.func (.func N) #[] caps) []) :=
    ⟨e0, z0, TurnM.own (A := fun _ => False) (TurnM.below hb2) HOWN1.out (fun _ _ h => h), e1, e2, e3⟩
  have HFM : Hid (FarM T p0 p1 (p1 + 1) (p0 + 1) g) := by
    have h1 := HLIM.out
    have h2 := HP1.out
    refine ⟨by omega, ⟨fun h => ?_, fun h => ?_, fun h => ?_, fun h => ?_, fun h => ?_⟩, fun k h => ?_⟩ <;> (have := h1 _ h; omega)
  have hlV : Calls Tryz.prog 32 #[.slice had n hc] V.drew fun e w' => ∃ A M C, e = .returned (.agg (arrN A M C)) ∧ RowsN w' (fun k => k < V.drew.heap.size) A M C (rowsL l) ∧ Below V.drew.heap.size V.drew w' :=
    lanes_any l _ V.drew (HOP.out.below hbV.drew (Nat.le_refl _)) (by rw [HN.out]; exact hl8) HD.out
  have HLV := hid_mm hlV
  have HIV : Hid (I s V) := HT.out.keep s w V (fun _ => False) HLV0.out HI.out (TurnM.below hbV) (fun _ _ h => h)
  have HGO : Hid (∀ w' A M C, RowsN w' (fun k => k < V.drew.heap.size) A M C (rowsL l) → Below V.drew.heap.size V.drew w' → w'.cell? ⟨p0 + 1, 0, none⟩ = some (.func (.func 31) #[] #[.pointer (some ⟨p0, 0, none⟩), .pointer (some ⟨p1, 0, none⟩), .pointer (some ⟨p1 + 1, 0, none⟩), .pointer (some ⟨p0 + 1, 0, none⟩)]) ∧
      Calls Tryz.prog 31 #[.agg (arrN A M C), .pointer (some ⟨p0, 0, none⟩), .pointer (some ⟨p1, 0, none⟩), .pointer (some ⟨p1 + 1, 0, none⟩), .pointer (some ⟨p0 + 1, 0, none⟩)] w' fun e w2 => e = .returned (.bool (goO st (mixL l) s).2) ∧ I (goO st (mixL l) s).1 w2 ∧ TurnM T w w2) := by
    intro w' A M C hr hb
    have hb' : Below V.heap.size V w' := ((Below.refl V.heap.size V).drew).trans hb
    have hg3 := HGA.out.turn (A := fun _ => False) (TurnM.below hb') id id id id id
    have hlim := HLIM.out
    have hp1 := HP1.out
    refine ⟨hg3.fn, ?_⟩
    have hch : ∀ k, ChM T p0 g k → k < V.drew.heap.size := fun k hk => by
      show k < V.heap.size
      have h0 := hbV.size
      rcases hk with h | h | h
      · have := hlim k h; omega
      · omega
      · omega
    have hm : mixL l = (mixG n (rowsL l)).map (([] : List Op3) ++ ·) := by unfold mixL; rw [HN.out]; simp
    have h1 := grow_anyM HT.out HFM.out hl8 n s (rowsL l) [] A M C had hc w' (by simp) (by rw [tot_rows HD.out, HN.out]) (hr.mono hch) hg3 HLV0.out (HT.out.keep s V w' (fun _ => False) HLV0.out HIV.out (TurnM.below hb') (fun _ _ h => h)) (fun y hy => HG.out y (by unfold mixL; rw [HN.out]; exact hy))
    rw [← hm] at h1
    refine h1.mono ?_
    rintro e w2 ⟨h1, h2, h3, -⟩
    refine ⟨h1, h2, ?_⟩
    have h4 : TurnM (fun _ => False) w w' := TurnM.below (hbV.trans (hb'.mono hbV.size))
    exact ⟨h3.os.trans h4.os, h3.tape.trans h4.tape, h3.output.trans h4.output, Nat.le_trans h4.size h3.size, fun k hk hn => (h3.block k (by have := h4.size; omega) (fun hc => by
      rcases hc with h | h | h
      · exact hn h
      · omega
      · omega)).trans (h4.block k hk id)⟩
  clear hV hp0 hb2 hsV hb0V hp2 hgg hg1 hlV hbV z0 e0 e2
  go_region_with (first | (go_at_call 32; refine HLV.out.mono ?_; rintro e w2 ⟨A, M, C, rfl, hr2, hb2⟩; obtain ⟨q3, hq3⟩ := HGO.out w2 A M C hr2 hb2; have HQ3 := hid_mm hq3; clear hq3 hr2 hb2) | (go_at_call 31; refine HQ3.out.mono ?_; rintro e w3 ⟨rfl, hi3, ht3⟩; have HI3 := hid_mm hi3; have HT3 := hid_mm ht3; clear hi3 ht3))
  all_goals
    go_wp2
    go_end0
    exact ⟨rfl, HI3.out, HT3.out⟩
end Go.Proofs.YtmjjiehnjghndaaGreat

namespace Go.Proofs.YtmjjiehnjghndaaGreat
open Go.RowKit

theorem mcheck_fn (l : List Op3) (ad : Option Addr) (cap : Nat) (w : World) (hI : IsOps w (.slice ad l.length cap) l) :
    Calls Tryz.prog 12 #[.slice ad l.length cap] w fun e w' => e = .returned (errV (mixE l)) ∧ Below w.heap.size w w' := by
  have HC := hid_mm (check_v l _ w hI)
  obtain ⟨n, hn⟩ : ∃ n, l.length = n := ⟨_, rfl⟩
  obtain ⟨c, hc⟩ : ∃ c, (chk l).2 = c := ⟨_, rfl⟩
  have HE : Hid (mixE l = if c ≠ 0 then c else if 8 < n then 4 else 0) := by show _ = _; unfold mixE; rw [hc, hn]
  rw [hc, hn] at HC
  rw [hn]
  clear hI hn hc
  go_enter Tryz.func12, Tryz.ntmps12
  go_wp2_with fail
  refine HC.out.mono ?_
  rintro e w1 ⟨rfl, hb1⟩
  have HB1 := hid_mm hb1
  clear hb1 HC
  by_cases hz : c = 0
  · subst hz
    rw [errV_zero]
    by_cases h8 : 8 < n
    · have h8' : (8 : Int) < (n : Int) := by omega
      have HQ : Hid (mixE l = 4) := by show _ = _; rw [HE.out, if_neg (by simp), if_pos h8]
      clear HE h8
      go_wp2_with fail
      go_ret
      exact ⟨by rw [HQ.out, errV_ne (by decide)]; rfl, HB1.out⟩
    · have h8' : ¬ (8 : Int) < (n : Int) := by omega
      have HQ : Hid (mixE l = 0) := by show _ = _; rw [HE.out, if_neg (by simp), if_neg h8]
      clear HE h8
      go_wp2_with fail
      go_ret
      exact ⟨by rw [HQ.out, errV_zero]; rfl, HB1.out⟩
  · have HQ : Hid (mixE l = c) := by show _ = _; rw [HE.out, if_pos hz]
    rw [errV_ne hz]
    have HZ := hid_mm hz
    clear HE hz
    go_wp2_with fail
    go_ret
    exact ⟨by rw [HQ.out, errV_ne HZ.out]; rfl, HB1.out⟩
theorem wrap_next (n : Nat) : IntKind.i64.wrap (IntKind.i64.wrap (n : Int) + 1) = IntKind.i64.wrap ((n + 1 : Nat) : Int) := by
  simp only [IntKind.wrap_i64]; omega
theorem wrap_few {n : Nat} (h : n ≤ 4611686018427387904) : IntKind.i64.wrap (n : Int) = n := by rw [IntKind.wrap_i64]; omega
end Go.Proofs.YtmjjiehnjghndaaGreat
