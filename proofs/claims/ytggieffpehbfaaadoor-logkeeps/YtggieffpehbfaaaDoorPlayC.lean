/-
  PROVED HERE: play.Values and play.Seen answer what a right list comes to (valsL, seenTo of what is done), and history.Check's error at a wrong one. Old memory stays as it was.
  Conditions: none.
  (Of these, what the claim wants: the rest was left out.)
-/
import Derived.Test.YtggieffpehbfaaaDoorPlayBoard
import Derived.Test.YtggieffpehbfaaaDoorPlayAsk
import Derived.Test.YtggieffpehbfaaaDoorCloneInts
import Derived.Test.YtggieffpehbfaaaDoorDone
import Derived.Test.YtggieffpehbfaaaDoorBack
import Derived.Laws.CopyOwn
namespace Go.Proofs.YtggieffpehbfaaaDoor
open Go.RowKit

def zeroB : Array Value := cells22 (fun _ => 0) (fun _ => 0) (fun _ => 0) (.slice none 0 0)
theorem bPart_one (F C S : Nat → Int) (ad : Option Addr) (n c k : Nat) : (bPart F C S (.slice ad n c) k).oneCell' = true := by
  unfold bPart
  split
  · rfl
  · split
    · rfl
    · split <;> rfl
theorem cells22_one (F C S : Nat → Int) (ad : Option Addr) (n c : Nat) : (cells22 F C S (.slice ad n c)).all (·.oneCell') = true := by
  rw [Array.all_eq_true_iff_forall_mem]
  intro v hv
  simp only [cells22, List.mem_toArray, List.mem_map] at hv
  obtain ⟨k, _, rfl⟩ := hv
  exact bPart_one _ _ _ _ _ _ _
theorem results_board {P : Program} {fn : Func} {p q : Tmp} {ty : TypeId} (h : fn.results = #[.cell p ty, .tmp q]) (tmps : Array Value) (w : World) (g : Nat) (t : TypeId) (cs : Array Value) (fr : Nat × Nat) (d : TypeDesc) (v : Value)
    (hp : tmps.getD p undef = .pointer (some ⟨g, 0, none⟩)) (hq : tmps.getD q undef = v) (hg : w.heap[g]? = some (.cells cs t fr))
    (hu : P.underlying ty = some d) (hd : (match d with | .struct _ | .array _ _ => true | _ => false) = true) (hi : (P.info? ty).map (·.size) = some cs.size) :
    (results fn tmps).run P w = .ok (.tuple #[.agg cs, v]) w := by
  have hp' : tmps[p]?.getD undef = .pointer (some ⟨g, 0, none⟩) := by simpa using hp
  have hq' : tmps[q]?.getD undef = v := by simpa using hq
  simp [results, h, hp', hq', asAddr, run_loadVar_row w g t ty cs fr d hg hu hd hi]
theorem board_split {c : Code} {Q : Exit → Act → World → Prop} {a : Act} (w : World) (Z : Array Value) (F C S : Nat → Int) (sv : Value) (hZ : zeroB = Z) (h : ∀ W, BoardAt W w.heap.size F C S sv → Below w.heap.size w W → Code.wp Tryd.prog c Q a W) :
    Code.wp Tryd.prog c Q a ((w.alloc (.cells Z 59)).setRow w.heap.size (cells22 F C S sv)) := by
  subst hZ
  exact h _ (setRow_heap _ _ _ _ _ _ (board_box w _ _ _ _)) (below_setRow ((Below.refl _ w).alloc (Nat.le_refl _) _) (Nat.le_refl _) _)
theorem zero_split {F : FuncId} {args : Array Value} {Q : Ending → World → Prop} (w : World) (Z : Array Value) (hZ : zeroB = Z) (h : ∀ W, BoardAt W w.heap.size (fun _ => 0) (fun _ => 0) (fun _ => 0) (.slice none 0 0) → Below w.heap.size w W → Calls Tryd.prog F args W Q) :
    Calls Tryd.prog F args (w.alloc (.cells Z 59)) Q := by
  subst hZ
  exact h _ (board_box w _ _ _ _) ((Below.refl _ w).alloc (Nat.le_refl _) _)

theorem own_setRow {w : World} {base e size n g0 : Nat} {v : Value} {xs : List Value} (h : w.ownsRow base e size v n xs) (hg : g0 < base) (cs : Array Value) : (w.setRow g0 cs).ownsRow base e size v n xs := by
  obtain ⟨hl, hd | ⟨g, cap, cur, hv, hbg, hgc, hn, hm, hsz, htk⟩⟩ := h
  · exact ⟨hl, .inl hd⟩
  · refine ⟨hl, .inr ⟨g, cap, cur, hv, hbg, ?_, hn, hm, hsz, htk⟩⟩
    rw [← hgc]
    unfold World.setRow
    simp [Array.getElem?_modify, show ¬ g0 = g by omega]
theorem played_start (w : World) (d : List Op3) : Played (w.alloc (.cells zeroB 59)) w.heap.size d 0 := by
  refine ⟨.slice none 0 0, ?_, World.ownsRow_nil _ _ _ _⟩
  have h := board_box w (fun _ => 0) (fun _ => 0) (fun _ => 0) (.slice none 0 0)
  have e1 : itB d 0 = fun _ => 0 := rfl
  have e2 : cntB d 0 = fun _ => 0 := by funext j; simp [cntB, ofL]
  have e3 : sumB d 0 = fun _ => 0 := rfl
  rw [e1, e2, e3]
  exact h
theorem Played.alloc {w : World} {B k : Nat} {d : List Op3} (h : Played w B d k) (o : Obj) : Played (w.alloc o) B d k := by
  obtain ⟨sv, h1, h2⟩ := h
  exact ⟨sv, h1.below ((Below.refl _ w).alloc (Nat.le_refl _) o) h1.lt, h2.alloc _⟩

set_option maxHeartbeats 8000000 in
set_option maxRecDepth 100000 in
theorem played_ok (l : List Op3) (v : Value) (w : World) (hI : IsOps w v l) (hc : (chk l).2 = 0) :
    Calls Tryd.prog 26 #[v] w fun e w' => ∃ ad n c, e = .returned (.tuple #[.agg (cells22 (itB (doneL l) (doneL l).length) (cntB (doneL l) (doneL l).length) (sumB (doneL l) (doneL l).length) (.slice ad n c)), .nilIface]) ∧ IsInts w' (.slice ad n c) (seenTo (doneL l) (doneL l).length) ∧ Below w.heap.size w w' := by
  have HC : Hid (∀ W, Below w.heap.size w W → Calls Tryd.prog 32 #[v] W fun e w' => ∃ v', e = .returned (.tuple #[v', .nilIface]) ∧ IsOps w' v' (doneL l) ∧ Below W.heap.size W w') := fun W hW => done_ok l v W (hI.below hW (Nat.le_refl _)) hc
  have hcd := chk_done hc
  obtain ⟨d, hd⟩ : ∃ d, doneL l = d := ⟨_, rfl⟩
  rw [hd] at HC hcd ⊢
  have hl := chk_len hcd
  have HOP : Hid (∀ o ∈ d, isOpB o = true) := chk_ops hcd
  clear hI hc hcd hd
  go_enter Tryd.func26, Tryd.ntmps26
  go_wp2_with fail
  refine zero_split w _ rfl ?_
  intro W hW hbW
  have HZ : Hid (BoardAt W w.heap.size (fun _ => 0) (fun _ => 0) (fun _ => 0) (.slice none 0 0)) := hW
  have HB : Hid (Below w.heap.size w W) := hbW
  clear hW hbW
  refine (HC.out W HB.out).mono ?_
  rintro e w1 ⟨v1, rfl, hI1, hb1⟩
  have HZ1 : Hid (w1.heap[w.heap.size]? = some (.cells zeroB 59 (0, 0))) := HZ.out.below hb1 HZ.out.lt
  have hw1 : w.heap.size < w1.heap.size := Nat.lt_of_lt_of_le HZ.out.lt hb1.size
  have HB1 : Hid (Below w.heap.size w w1) := HB.out.trans (hb1.mono HB.out.size)
  obtain ⟨ad, b, off, cap, hv1, ha, -, hbB, hops⟩ := hI1
  subst hv1
  have HE : Hid (∀ W, Below w1.heap.size w1 W → ∀ k, k < d.length → ad = some ⟨b, off, none⟩ ∧ W.cell? ⟨b, off + k * 3, none⟩ = some (.int .i64 (opAt d k).1) ∧ W.cell? ⟨b, off + k * 3 + 1, none⟩ = some (.int .i64 (opAt d k).2.1) ∧ W.cell? ⟨b, off + k * 3 + 2, none⟩ = some (.int .i64 (opAt d k).2.2)) := fun W hW k hk => ⟨ha (by omega), (hops.below hW hbB) k hk⟩
  clear ha hbB hops hb1 HZ HB HC
  go_wp2_with fail
  go_loopw [20] (fun v20 wr => ∃ k : Nat, k ≤ d.length ∧ v20 = .int .i64 k ∧ Played wr w1.heap.size d k ∧ Below w1.heap.size w1 wr) (fun v20 _ => d.length - (intOf v20).toNat)
  case atStart => exact ⟨0, Nat.zero_le _, rfl, played_start w1 d, (Below.refl _ w1).alloc (Nat.le_refl _) _⟩
  case round =>
    obtain ⟨k, hk, rfl, hpl, hbr⟩ := hrel
    have HP : Hid (Played wr w1.heap.size d k) := hpl
    have HBR : Hid (Below w1.heap.size w1 wr) := hbr
    clear hpl
    by_cases hlt : k < d.length
    · have hlt' : (k : Int) < (d.length : Int) := by omega
      obtain ⟨hadr, c0, c1, c2⟩ := HE.out wr hbr k hlt
      subst hadr
      obtain ⟨⟨t, a, x⟩, ho⟩ : ∃ o : Op3, opAt d k = o := ⟨_, rfl⟩
      have hisop := HOP.out _ (opAt_mem hlt)
      rw [ho] at c0 c1 c2 hisop
      have HO : Hid (opAt d k = (t, a, x)) := ho
      have HIS : Hid (isOpB (t, a, x) = true) := hisop
      simp only at c0 c1 c2
      clear ho hisop hbr
      have HCL : Hid (∀ o, Calls Tryd.prog 33 #[.pointer (some ⟨w1.heap.size, 0, none⟩), .agg #[.int .i64 t, .int .i64 a, .int .i64 x]] (wr.alloc o) fun e w' => e = .returned (.tuple #[]) ∧ Played w' w1.heap.size d (k + 1) ∧ Below w1.heap.size (wr.alloc o) w') := fun o => bplay_any d k _ t a x _ (HP.out.alloc o) hlt hl HO.out HIS.out
      go_wp2_with (go_at_call 33; refine (HCL.out _).mono ?_; rintro e w2 ⟨rfl, hp2, hb2⟩)
      go_roundw
      case rel => exact ⟨k + 1, by omega, by go_num, hp2, (HBR.out.alloc HBR.out.size _).trans hb2⟩
      case measure => simp [intOf]; omega
    · have hlt' : ¬ (k : Int) < (d.length : Int) := by omega
      obtain rfl : k = d.length := by omega
      obtain ⟨sv, hbd, hown⟩ := HP.out
      obtain ⟨ad2, n2, cap2, rfl⟩ := own_parts3 hown
      have HBD : Hid (wr.heap[w1.heap.size]? = some (.cells (cells22 (itB d d.length) (cntB d d.length) (sumB d d.length) (.slice ad2 n2 cap2)) 59 (0, 0))) := hbd
      have HR : Hid (IsInts wr (.slice ad2 n2 cap2) (seenTo d d.length) ∧ wr.ownsRow (w1.heap.size + 1) 3 1 (.slice ad2 n2 cap2) (seenTo d d.length).length ((seenTo d d.length).map (Value.int .i64))) := ⟨isInts_own hown rfl, hown⟩
      have HZR : Hid (wr.heap[w.heap.size]? = some (.cells zeroB 59 (0, 0))) := (hbr.block _ hw1).trans HZ1.out
      clear hbd hown hbr HP
      go_wp2_with (first | refine wpList_load_row rfl 59 (.tmp 6) rfl w1.heap.size rfl 59 (cells22 (itB d d.length) (cntB d d.length) (sumB d d.length) (.slice ad2 n2 cap2)) (0, 0) _ HBD.out Tryd.underlying59 rfl (board_info' _ _ _ _) ?_ | refine wpList_store_row rfl 59 (.tmp 2) (.tmp 27) rfl w.heap.size (cells22 (itB d d.length) (cntB d d.length) (sumB d d.length) (.slice ad2 n2 cap2)) rfl rfl 59 zeroB HZR.out (board_info' _ _ _ _) (by rw [cells22_size]; rfl) (cells22_one _ _ _ _ _ _) ?_)
      refine bodyPost_ret (v := .tuple #[.agg (cells22 (itB d d.length) (cntB d d.length) (sumB d d.length) (.slice ad2 n2 cap2)), .nilIface]) (results_board Tryd.results26 _ _ w.heap.size 59 (cells22 (itB d d.length) (cntB d d.length) (sumB d d.length) (.slice ad2 n2 cap2)) (0, 0) _ _ rfl rfl (setRow_heap _ _ _ _ _ _ HZR.out) Tryd.underlying59 rfl (board_info' _ _ _ _)) rfl ⟨_, _, _, rfl, ?_, below_setRow (HB1.out.trans (HBR.out.mono HB1.out.size)) (Nat.le_refl _) _⟩
      exact isInts_own (own_setRow HR.out.2 (by omega) _) rfl

set_option maxHeartbeats 4000000 in
set_option maxRecDepth 100000 in
theorem values_ok : ValuesOk := by
  intro l v w hI hc
  have HC : Hid (Calls Tryd.prog 26 #[v] w fun e w' => ∃ ad n c, e = .returned (.tuple #[.agg (cells22 (itB (doneL l) (doneL l).length) (cntB (doneL l) (doneL l).length) (sumB (doneL l) (doneL l).length) (.slice ad n c)), .nilIface]) ∧ IsInts w' (.slice ad n c) (seenTo (doneL l) (doneL l).length) ∧ Below w.heap.size w w') := played_ok l v w hI hc
  obtain ⟨d, hd⟩ : ∃ d, doneL l = d := ⟨_, rfl⟩
  rw [hd] at HC ⊢
  clear hI hc hd
  obtain ⟨C, hC⟩ : ∃ C, cntB d d.length = C := ⟨_, rfl⟩
  obtain ⟨S, hS⟩ : ∃ S, sumB d d.length = S := ⟨_, rfl⟩
  rw [hC, hS] at HC
  clear hC hS
  go_enter Tryd.func18, Tryd.ntmps18
  go_wp2_with fail
  refine HC.out.mono ?_
  rintro e w1 ⟨ad, n, c, rfl, -, hb1⟩
  have HB1 : Hid (Below w.heap.size w w1) := hb1
  have HZ : Hid ((w1.alloc (.cells zeroB 59)).heap[w1.heap.size]? = some (.cells zeroB 59 (0, 0))) := board_box w1 _ _ _ _
  clear hb1
  go_upto_region 2 with (refine wpList_store_row rfl 59 (.tmp 4) (.tmp 9) rfl w1.heap.size (cells22 (itB d d.length) C S (.slice ad n c)) rfl rfl 59 zeroB HZ.out (board_info' _ _ _ _) (by rw [cells22_size]; rfl) (cells22_one _ _ _ _ _ _) ?_)
  refine board_split w1 _ _ _ _ _ rfl ?_
  intro W hW hbW
  have HV : Hid (IsInts W (.slice (some ⟨w1.heap.size, 1, none⟩) 6 6) (valsL d)) := by
    refine ⟨some ⟨w1.heap.size, 1, none⟩, w1.heap.size, 1, 6, by simp [valsL], fun _ => rfl, fun h => (by cases h), .inl hW.lt, fun i hi => ?_⟩
    have hi6 : i < 6 := by simpa [valsL] using hi
    rw [hW.item (k := 1 + i) (by omega)]
    simp [valsL, itB, List.getD, hi6, Int.add_comm]
  have HBW : Hid (Below w.heap.size w W) := HB1.out.trans (hbW.mono HB1.out.size)
  clear hbW hW
  go_wp2_with fail
  refine (clone_ints _ _ _ HV.out (by have := vals_few d; simp [valsL])).mono ?_
  rintro e w2 ⟨v2, rfl, hown, hb2⟩
  have HR : Hid (IsInts w2 v2 (valsL d)) := isInts_own hown rfl
  clear hown
  go_wp2_with fail
  go_ret2
  exact ⟨_, rfl, HR.out, HBW.out.trans (hb2.mono HBW.out.size)⟩
end Go.Proofs.YtggieffpehbfaaaDoor
