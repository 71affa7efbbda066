/-
  PROVED HERE: strict.lane's method free, over a run in memory, if goOn does what chapter 9 says: who comes to hold what it waited for goes on, one by one.
  Conditions: what 'do' does is a premise.
  PROVED HERE: plain facts: how long the lists can be while deals ask; what aborting one makes of that.
  Conditions: none.
-/
import Derived.Test.YtmjjiehnjghndaaGreatMgby
import Derived.Test.YtmjjiehnjghndaaGreatMgap
namespace Go.Proofs.YtmjjiehnjghndaaGreat
open Go.RowKit

def FreeL (way : Int) (n : Nat) : Prop := ∀ (R : Nat) (r : Runr) (g : Int → Option Value) (c : Lay) (P : Int → Option Op3) (t : Int) (w : World), LaneAt w R way r g c → (∀ d, d ≠ t → g d = wm r P d) → FitsBut r P t → Good { r with tab := (freeT r.tab t).1 } → r.tab.1.length ≤ 100 → r.tab.2.length ≤ 100 → 1 ≤ t → t ≤ 6 → pot r ≤ 47 → sum6 r.behind ≤ n →
  Calls Tryz.prog 56 #[.pointer (some ⟨R, 0, none⟩), .int .i64 t] w fun e w' => e = .returned (.tuple #[]) ∧ LaneStep w w' R way c (freeR (doN way n) r t) (wm (freeR (doN way n) r t) P)
/-- A run since a world, and beside it those that have come to hold what they waited for. -/
structure CameAt (w0 w : World) (R : Nat) (way : Int) (c0 : Lay) (v : Value) (L : List Op3) (r : Runr) (g : Int → Option Value) (c : Lay) : Prop where
  run : Since w0 w R way c0 r g c
  row : w.ownsRow w0.heap.size 99 3 v L.length (flat L)
  so : ∀ q, v.ownBlock = some q → ¬ feet R c q
section
variable {w0 w w1 : World} {R : Nat} {way : Int} {r r1 : Runr} {g g1 : Int → Option Value} {c0 c c1 : Lay} {v : Value} {L : List Op3}
theorem CameAt.below (h : CameAt w0 w R way c0 v L r g c) (hb : Below w.heap.size w w1) : CameAt w0 w1 R way c0 v L r g c := ⟨h.run.below hb, (Turns.of_below (F := fun _ => False) hb).own h.row fun _ _ hf => hf, h.so⟩
theorem CameAt.step (h : CameAt w0 w R way c0 v L r g c) (hs : LaneStep w w1 R way c r1 g1) : ∃ c1, CameAt w0 w1 R way c0 v L r1 g1 c1 := by
  obtain ⟨c1, h1, h2, h3⟩ := hs
  refine ⟨c1, ⟨h1, h.run.turn.trans h2 fun k hk hk2 => ?_, fun k hk => ?_⟩, h2.own h.row fun q hq => h.so q hq, fun q hq hk => ?_⟩
  · rcases h.run.feet k hk2 with h4 | h4
    · exact h4
    · omega
  · rcases h3 k hk with h4 | h4
    · exact h.run.feet k h4
    · exact .inr (Nat.le_trans h.run.turn.size h4)
  · rcases h3 q hk with h4 | h4
    · exact h.so q hq h4
    · have := (h.row.lt q hq).2; omega
theorem CameAt.congr (h : CameAt w0 w R way c0 v L r g c) (e : ∀ d, g1 d = g d) : CameAt w0 w R way c0 v L r g1 c := ⟨h.run.congr e, h.row, h.so⟩
theorem LaneAt.as (h : LaneAt w R way r g c) (h1 : r1.tab = r.tab) (h2 : r1.told = r.told) (h3 : r1.vict = r.vict) (h4 : r1.behind = r.behind) : LaneAt w R way r1 g c :=
  ⟨h.blk, by rw [h1]; exact h.tab, by rw [h2]; exact h.told, by rw [h3]; exact h.outs, h.wts, h.beh, fun d hd => by rw [h4]; exact h.rows d hd, h.apart⟩
theorem CameAt.as (h : CameAt w0 w R way c0 v L r g c) (h1 : r1.tab = r.tab) (h2 : r1.told = r.told) (h3 : r1.vict = r.vict) (h4 : r1.behind = r.behind) : CameAt w0 w R way c0 v L r1 g c := ⟨⟨h.run.run.as h1 h2 h3 h4, h.run.turn, h.run.feet⟩, h.row, h.so⟩
/-- A table has been freed. -/
theorem LaneAt.freed {F1 : Nat → Prop} {s1 : Tab2} (h : LaneAt w R way r g c) (hr : w1.ownsRow w.heap.size 99 3 v L.length (flat L)) (hp : PTab w1 c.T F1 s1) (ht : Turns c.F w w1) (hf : ∀ k, F1 k → c.F k ∨ w.heap.size ≤ k) (hso : ∀ q, v.ownBlock = some q → ¬ F1 q) : ∃ c1, CameAt w w1 R way c v L { r with tab := s1 } g c1 := by
  have ht2 : Turns (ofs R c fun j => j = 1) w w1 := one_turn (i := 1) (by omega) ht
  have hst := h.setTab hp ht hf
  have hat : LaneAt w1 R way { r with tab := s1 } g { c with F := F1 } := by
    refine ⟨h.blkT ht2 (h.keep (by omega) (by omega)), hp, h.toldT ht2 (h.keep (by omega) (by omega)), h.outsT ht2 (h.keep (by omega) (by omega)), h.wtsT ht2 (h.keep (by omega) (by omega)), h.behT ht2 (h.keep (by omega) (by omega)), fun d hd => h.rowsT ht2 hd (h.keep (by omega) (by omega)), fun i j k hi hj hij h1 h2 => ?_⟩
    have hpp : ∀ i, i < 13 → part R { c with F := F1 } i k → part R c i k ∨ (i = 1 ∧ w.heap.size ≤ k) := fun i hi hk => by
      match i, hk with
      | 0, hk => exact .inl hk
      | 1, hk =>
        rcases hf k hk with h3 | h3
        · exact .inl h3
        · exact .inr ⟨rfl, h3⟩
      | 2, hk => exact .inl hk
      | 3, hk => exact .inl hk
      | 4, hk => exact .inl hk
      | 5, hk => exact .inl hk
      | d + 6, hk => exact .inl hk
    rcases hpp i hi h1 with h3 | ⟨h3, h4⟩
    · rcases hpp j hj h2 with h5 | ⟨h5, h6⟩
      · exact h.apart i j k hi hj hij h3 h5
      · have := h.part_lt i k hi h3; omega
    · rcases hpp j hj h2 with h5 | ⟨h5, h6⟩
      · have := h.part_lt j k hj h5; omega
      · exact hij (h3.trans h5.symm)
  have hfe : ∀ k, feet R { c with F := F1 } k → F1 k ∨ feet R c k := fun k ⟨i, hi, hk⟩ => by
    match i, hk with
    | 0, hk => exact .inr ⟨0, by omega, hk⟩
    | 1, hk => exact .inl hk
    | 2, hk => exact .inr ⟨2, by omega, hk⟩
    | 3, hk => exact .inr ⟨3, by omega, hk⟩
    | 4, hk => exact .inr ⟨4, by omega, hk⟩
    | 5, hk => exact .inr ⟨5, by omega, hk⟩
    | d + 6, hk => exact .inr ⟨d + 6, hi, hk⟩
  refine ⟨_, ⟨hat, ht.mono fun k _ hk => ⟨1, by omega, hk⟩, fun k hk => ?_⟩, hr, fun q hq hk => ?_⟩
  · rcases hfe k hk with h1 | h1
    · rcases hf k h1 with h2 | h2
      · exact .inl ⟨1, by omega, h2⟩
      · exact .inr h2
    · exact .inl h1
  · rcases hfe q hk with h1 | h1
    · exact hso q hq h1
    · have := h.feet_lt h1
      have := (hr.lt q hq).1
      omega
end
theorem takeL_fold {α : Type} (f : α → Op3 → α) (a : α) {L : List Op3} {k : Nat} (hk : k < L.length) : (L.take (k + 1)).foldl f a = f ((L.take k).foldl f a) (opAt L k) := by
  rw [List.take_succ_eq_append_getElem hk, List.foldl_append]
  simp [opAt, List.getD, List.getElem?_eq_getElem hk]
theorem dropL_cons {L : List Op3} {k : Nat} (hk : k < L.length) : L.drop k = opAt L k :: L.drop (k + 1) := by
  rw [List.drop_eq_getElem_cons hk]
  simp [opAt, List.getD, List.getElem?_eq_getElem hk]
/-- The map of those that wait, with some struck out. -/
def struck (g : Int → Option Value) (l : List Op3) : Int → Option Value := l.foldl (fun f x => setF f x.1 none) g
theorem struck_at : ∀ (l : List Op3) (g : Int → Option Value) (d : Int), struck g l d = if l.any (fun x => x.1 == d) = true then none else g d := by
  intro l
  induction l with
  | nil => intro g d; rfl
  | cons x q ih =>
    intro g d
    show struck (setF g x.1 none) q d = _
    rw [ih, List.any_cons]
    by_cases h : (q.any fun x => x.1 == d) = true
    · rw [if_pos h, if_pos (by rw [h]; simp)]
    · rw [if_neg h]
      by_cases e : d = x.1
      · rw [e, setF_same, if_pos (by simp)]
      · rw [setF_other _ _ e, if_neg (by simp only [Bool.or_eq_true, beq_iff_eq, not_or]; exact ⟨fun e2 => e e2.symm, h⟩)]
theorem wm_free {r : Runr} {P : Int → Option Op3} {t : Int} {g : Int → Option Value} {L : List Op3} {s : Tab2} (hg : ∀ d, d ≠ t → g d = wm r P d) (ht : r.waits t = false) (d : Int) : wm { r with tab := s } (addP P L) d = struck (setF g t none) L d := by
  rw [struck_at]
  by_cases h : (L.any fun x => x.1 == d) = true
  · rw [if_pos h]
    unfold wm
    rw [if_neg]
    intro h2
    obtain ⟨x, hx, he⟩ := List.any_eq_true.1 h
    exact (addP_none.1 h2.2).2 x hx (by simpa using he)
  · rw [if_neg h]
    have hoff : addP P L d = P d := addP_off fun y hy e => h (List.any_eq_true.2 ⟨y, hy, by simp [e]⟩)
    by_cases e : d = t
    · subst e
      rw [setF_same]
      unfold wm
      rw [if_neg (by simp [ht])]
    · rw [setF_other _ _ e, hg d e]
      unfold wm
      rw [hoff]
theorem wm_skip {r : Runr} {P : Int → Option Op3} {x : Op3} {l : List Op3} (hw : r.waits x.1 = false) (d : Int) : wm r (addP P l) d = wm r (addP P (x :: l)) d := by
  unfold wm
  by_cases e : d = x.1
  · rw [e, if_neg (by simp [hw]), if_neg (by simp [hw])]
  · rw [addP_tail P x l e]
theorem wm_got {r : Runr} {P : Int → Option Op3} {x : Op3} {l : List Op3} (d : Int) : wm (gotR r x.1) (addP P l) d = wm r (addP P (x :: l)) d := by
  unfold wm gotR
  by_cases e : d = x.1
  · subst e
    simp only [setF_same, addP_head]
    rw [if_neg (by simp), if_neg (by simp)]
  · simp only [setF_other _ _ e, addP_tail P x l e]
/-- A lock in a block of its own. -/
def LkBox (w : World) (Q : Nat) (x : Op3) : Prop := w.cell? ⟨Q, 0, none⟩ = some (.int .i64 x.1) ∧ w.cell? ⟨Q, 1, none⟩ = some (.int .i64 x.2.1) ∧ w.cell? ⟨Q, 2, none⟩ = some (.int .i64 x.2.2)
theorem LkBox.lt {w : World} {P : Nat} {x : Op3} (h : LkBox w P x) : P < w.heap.size := World.block_lt_of_cell? w _ h.1
theorem LkBox.turn {w w1 : World} {F : Nat → Prop} {P : Nat} {x : Op3} (h : LkBox w P x) (ht : Turns F w w1) (hF : ¬ F P) : LkBox w1 P x :=
  ⟨(ht.cell (p := ⟨P, 0, none⟩) h.lt hF).trans h.1, (ht.cell (p := ⟨P, 1, none⟩) h.lt hF).trans h.2.1, (ht.cell (p := ⟨P, 2, none⟩) h.lt hF).trans h.2.2⟩
theorem LkBox.below {w w1 : World} {P : Nat} {x : Op3} (h : LkBox w P x) (hb : Below w.heap.size w w1) : LkBox w1 P x := h.turn (Turns.of_below (F := fun _ => False) hb) fun hf => hf
theorem lkBox_new (w : World) (t i m : Int) (T : TypeId) : LkBox (w.alloc (.cells #[.int .i64 t, .int .i64 i, .int .i64 m] T)) w.heap.size (t, i, m) := by
  refine ⟨?_, ?_, ?_⟩ <;> simp
set_option maxHeartbeats 16000000 in
set_option maxRecDepth 100000 in
theorem free_lane {way : Int} {n : Nat} (hD : DoL way n) : FreeL way n := by
  intro R r g c P t w h hgw hfb hg hl1 hl2 ht1 ht6 hp hs
  have HGO := hid_l (goOn_run hD)
  have HDO := hid_l (doN_ok way n)
  have HDF := hid_l (doN_fits way n)
  have hwt : Wf t := wf_deal ht1 ht6
  obtain ⟨r0, hr0⟩ : ∃ r0 : Runr, r0 = { r with tab := (freeT r.tab t).1 } := ⟨_, rfl⟩
  obtain ⟨L, hL⟩ : ∃ L, (freeT r.tab t).2 = L := ⟨_, rfl⟩
  have HTGT : Hid (freeR (doN way n) r t = L.foldl (grantR (doN way n)) r0) := by show freeR _ _ _ = _; unfold freeR; rw [hL, hr0]
  have HFU : Hid (freeU r.tab t = ((L, 0), r0.tab)) := by show freeU _ _ = _; unfold freeU; rw [if_pos ⟨ht1, ht6⟩, hL, hr0]
  have hF0 := hfb.free
  rw [hL, ← hr0] at hF0
  have HF0 := hid_l hF0
  have HWM : Hid (∀ d, wm r0 (addP P L) d = struck (setF g t none) L d) := fun d => by rw [hr0]; exact wm_free hgw hfb.not d
  have hap := free_apart hfb.ok t
  rw [List.pairwise_append, hL] at hap
  have HLA := hid_l hap.2.1
  have hid0 := hfb.idle
  rw [hL] at hid0
  have HLI := hid_l hid0
  have HLK : Hid (∀ x ∈ L, isLock x = true) := fun x hx => hfb.ok.locks.2 x (mem_free.2.2 (hL.symm ▸ hx)).1
  have hll : L.length ≤ 100 := by
    rw [← hL]
    have h1 := (grants_len (withoutL r.tab.2 t) ((withoutL r.tab.1 t, []), [])).2.2
    have h2 : (withoutL r.tab.2 t).length ≤ r.tab.2.length := List.length_filter_le _ _
    show (grants ((withoutL r.tab.1 t, []), []) (withoutL r.tab.2 t)).2.length ≤ 100
    simp only [List.length_nil] at h1
    omega
  have HGK : Hid (∀ k, Good ((L.take k).foldl (grantR (doN way n)) r0) ∧ pot ((L.take k).foldl (grantR (doN way n)) r0) ≤ 47 ∧ sum6 ((L.take k).foldl (grantR (doN way n)) r0).behind ≤ n) := fun k => by
    have h1 := grants_ok (doN_ok way n) (L.take k) r0 (hr0 ▸ hg)
    refine ⟨h1.good, ?_, Nat.le_trans (sum_mono h1.less) (by rw [hr0]; exact hs)⟩
    have h2 := h1.pots
    have h3 : pot r0 = pot r := by rw [hr0]; rfl
    omega
  have HFR : Hid (Calls Tryz.prog 71 #[.pointer (some ⟨c.T, 0, none⟩), .int .i64 t] w fun e w' => ∃ ad q c1, e = .returned (.tuple #[.slice ad L.length q, .nilIface]) ∧ CameAt w w' R way c (.slice ad L.length q) L r0 g c1) := by
    refine (pTab_free w c.T c.F r.tab t h.tab (by omega) (by omega)).mono ?_
    rw [HFU.out]
    rintro e w' ⟨v', rfl, hr, F', h1, h2, h3, h4⟩
    obtain ⟨ad, q, rfl, -⟩ := own_slice3 hr
    obtain ⟨c1, hc1⟩ := h.freed hr h1 h2 h3 h4
    exact ⟨ad, q, c1, rfl, by rw [hr0]; rw [hr0] at hc1; exact hc1⟩
  have c1' := h.c1
  have c4' := h.c4
  have hRl := h.lt
  clear hD h hg hl1 hl2 hp hs hr0 hL hF0 hap hid0 hfb hgw
  go_enter Tryz.func56, Tryz.ntmps56
  go_wp2_with fail
  refine HFR.out.mono ?_
  rintro e w1 ⟨ad1, q1, c1, rfl, hc1⟩
  have HC1 := hid_l hc1
  have k4 := hc1.run.run.c4
  obtain ⟨m4, hm4⟩ := hc1.run.run.wts
  have HM4 := hid_l hm4
  clear hc1 hm4 HFR c1' c4' hRl
  go_wp2_with (at_delete; refine wp_drop _ rfl (.tmp 22) (.tmp 23) 51 rfl 99 Tryz.underlying51 c1.W m4 g rfl HM4.out t rfl hwt ?_; intro w2 m2 hm2 ht2)
  obtain ⟨c2, hc2⟩ := HC1.out.step (HC1.out.run.run.setWts hm2 ht2)
  have HC2 := hid_l hc2
  clear hc2 hm2 ht2 k4 HC1 HM4
  go_loopw [26] (fun v26 wr => ∃ (k : Nat) (ck : Lay), k ≤ L.length ∧ v26 = .int .i64 k ∧ CameAt w wr R way c (.slice ad1 L.length q1) L r0 (struck (setF g t none) (L.take k)) ck) (fun v26 _ => L.length - (intOf v26).toNat)
  case atStart => exact ⟨0, c2, Nat.zero_le _, rfl, HC2.out⟩
  case round =>
    obtain ⟨k, ck, hk, rfl, hck⟩ := hrel
    have HCK := hid_l hck
    have k4 := hck.run.run.c4
    have hRr := hck.run.run.lt
    clear hck HC2
    by_cases hlt : k < L.length
    · have hlt' : (k : Int) < (L.length : Int) := by omega
      obtain ⟨gq, cq, hvq, -, hgl, -, e0, e1, e2⟩ := row_cells HCK.out.row rfl hlt
      simp only [Value.slice.injEq] at hvq
      obtain ⟨rfl, -, rfl⟩ := hvq
      obtain ⟨⟨xt, xi, xm⟩, hx⟩ : ∃ x, opAt L k = x := ⟨_, rfl⟩
      have HX := hid_l hx
      have hxl : isLock (xt, xi, xm) = true := by rw [← hx]; exact HLK.out _ (opAt_mem hlt)
      have hxr : 1 ≤ xt ∧ xt ≤ 6 := by simp [isLock] at hxl; omega
      have hwx : Wf xt := wf_deal hxr.1 hxr.2
      rw [hx] at e0 e1 e2
      simp only at e0 e1 e2
      clear hx hxl
      go_upto_region 5 with (fail)
      obtain ⟨W, hW⟩ : ∃ W, W = wr.alloc (.cells #[.int .i64 xt, .int .i64 xi, .int .i64 xm] 99) := ⟨_, rfl⟩
      rw [← hW]
      have hbW : Below wr.heap.size wr W := by rw [hW]; exact (Below.refl _ wr).alloc (Nat.le_refl _) _
      have p0 : W.cell? ⟨wr.heap.size, 0, none⟩ = some (.int .i64 xt) := by rw [hW]; simp
      have HCW := hid_l (HCK.out.below hbW)
      have k4' : W.cell? ⟨R, 4, none⟩ = some (.map (some ck.W)) := HCW.out.run.run.c4
      obtain ⟨m4, hm4⟩ := HCW.out.run.run.wts
      have HMW : Hid (MapIs W.drew ck.W (struck (setF g t none) (L.take k)) m4) := hm4
      have HNX : Hid (struck (setF g t none) (L.take (k + 1)) = setF (struck (setF g t none) (L.take k)) xt none) := by show struck _ _ = _; unfold struck; rw [takeL_fold _ _ hlt, HX.out]
      have hPW : wr.heap.size < W.heap.size := World.block_lt_of_cell? W _ p0
      clear hW hbW hm4 k4 e0 e1 e2 hgl
      go_region_law (refine step_drop _ rfl (.tmp 33) (.tmp 35) 51 rfl 99 Tryz.underlying51 ck.W m4 (struck (setF g t none) (L.take k)) (by simp [Act.eval]) HMW.out xt (by simp [Act.eval]) hwx ?_; intro w3 m3 hm3 ht3)
      all_goals
        have ht3' : Turns (fun j => j = ck.W) W w3 := ⟨ht3.os, ht3.tape, ht3.output, ht3.size, ht3.block⟩
        obtain ⟨c3, hc3⟩ := HCW.out.step (HCW.out.run.run.setWts hm3 ht3')
        have HC3 := hid_l hc3
        clear hm3 ht3 ht3' hc3 p0 k4' hPW
        go_wp2_with fail
        go_roundw
        case rel => exact ⟨k + 1, c3, by omega, by go_num, by rw [HNX.out]; exact HC3.out⟩
        case measure => simp [intOf]; omega
    · have hlt' : ¬ (k : Int) < (L.length : Int) := by omega
      obtain rfl : k = L.length := by omega
      have HS2 : Hid (CameAt w wr R way c (.slice ad1 L.length q1) L r0 (wm r0 (addP P L)) ck) := by
        have h1 := HCK.out
        rw [List.take_length] at h1
        exact h1.congr HWM.out
      clear HCK k4 hRr hk hlt
      go_wp2_with fail
      go_loopw [39] (fun v39 wr => ∃ (k : Nat) (ck : Lay), k ≤ L.length ∧ v39 = .int .i64 k ∧ CameAt w wr R way c (.slice ad1 L.length q1) L ((L.take k).foldl (grantR (doN way n)) r0) (wm ((L.take k).foldl (grantR (doN way n)) r0) (addP P (L.drop k))) ck ∧ Fits ((L.take k).foldl (grantR (doN way n)) r0) (addP P (L.drop k))) (fun v39 _ => L.length - (intOf v39).toNat)
      case atStart => exact ⟨0, ck, Nat.zero_le _, rfl, HS2.out, HF0.out⟩
      case round =>
        obtain ⟨k, ck, hk, rfl, hck, hfk⟩ := hrel
        have hgk := HGK.out k
        obtain ⟨rk, hrk⟩ : ∃ rk, (L.take k).foldl (grantR (doN way n)) r0 = rk := ⟨_, rfl⟩
        rw [hrk] at hck hfk hgk
        have HRK := hid_l hrk
        have HCK := hid_l hck
        have HFK := hid_l hfk
        have HGK2 := hid_l hgk
        clear hrk hck hfk hgk HS2
        by_cases hlt : k < L.length
        · have hlt' : (k : Int) < (L.length : Int) := by omega
          obtain ⟨gq, cq, hvq, -, hgl, -, e0, e1, e2⟩ := row_cells HCK.out.row rfl hlt
          simp only [Value.slice.injEq] at hvq
          obtain ⟨rfl, -, rfl⟩ := hvq
          obtain ⟨⟨xt, xi, xm⟩, hx⟩ : ∃ x, opAt L k = x := ⟨_, rfl⟩
          have HX := hid_l hx
          have hxl : isLock (xt, xi, xm) = true := by rw [← hx]; exact HLK.out _ (opAt_mem hlt)
          have hxr : 1 ≤ xt ∧ xt ≤ 6 := by simp [isLock] at hxl; omega
          have HXM : Hid (((xt, xi, xm) : Op3).2.2 = 1 ∨ ((xt, xi, xm) : Op3).2.2 = 2) := by have := isLock_mode hxl; show xm = 1 ∨ xm = 2; simp only at this; omega
          have hwx : Wf xt := wf_deal hxr.1 hxr.2
          rw [hx] at e0 e1 e2
          simp only at e0 e1 e2
          have hdc := dropL_cons hlt
          rw [hx] at hdc
          have HLX : Hid ((∀ y ∈ L.drop (k + 1), y.1 ≠ ((xt, xi, xm) : Op3).1) ∧ P ((xt, xi, xm) : Op3).1 = none) := by
            refine ⟨fun y hy e => ?_, HLI.out _ (by rw [← hx]; exact opAt_mem hlt)⟩
            have h1 : (L.drop k).Pairwise fun a b => a.1 ≠ b.1 := HLA.out.sublist (List.drop_sublist _ _)
            rw [hdc, List.pairwise_cons] at h1
            exact h1.1 y hy e.symm
          have HNX : Hid ((L.take (k + 1)).foldl (grantR (doN way n)) r0 = grantR (doN way n) rk (xt, xi, xm)) := by show List.foldl _ _ _ = _; rw [takeL_fold _ _ hlt, HRK.out, HX.out]
          rw [hdc] at HCK HFK
          clear hx hxl hdc
          obtain ⟨dx, rfl⟩ : ∃ d : Nat, xt = d := ⟨xt.toNat, by omega⟩
          have hd1 : 1 ≤ dx := by omega
          have hd6 : dx ≤ 6 := by omega
          go_upto_region 10 with (fail)
          obtain ⟨W, hW⟩ : ∃ W, W = wr.alloc (.cells #[.int .i64 (dx : Int), .int .i64 xi, .int .i64 xm] 99) := ⟨_, rfl⟩
          rw [← hW]
          have hbW : Below wr.heap.size wr W := by rw [hW]; exact (Below.refl _ wr).alloc (Nat.le_refl _) _
          have hbx : LkBox W wr.heap.size ((dx : Int), xi, xm) := by rw [hW]; exact lkBox_new _ _ _ _ _
          have HCW := hid_l (HCK.out.below hbW)
          obtain ⟨Q, hQ⟩ : ∃ Q, Q = wr.heap.size := ⟨_, rfl⟩
          have HQF : Hid (¬ feet R ck Q) := fun hk => by have := HCK.out.run.run.feet_lt hk; omega
          rw [← hQ] at hbx ⊢
          have HBX := hid_l hbx
          obtain ⟨p0, p1, p2⟩ := hbx
          simp only at p0 p1 p2
          have hPW : Q < W.heap.size := World.block_lt_of_cell? W _ p0
          have hab := isAborted_run HCW.out.run.run hwx
          cases ho : rk.out (dx : Int) with
          | true =>
            have hmem : (dx : Int) ∈ rk.vict := (HFK.out.vict _).1 ho
            rw [decide_eq_true hmem] at hab
            have HAB := hid_l hab
            have hwf2 := HFK.out.out _ ho
            have HNO := hid_l (grantR_no (doF := doN way n) (x := ((dx : Int), xi, xm)) hwf2)
            have HFN := hid_l (HFK.out.skip ho HLX.out.1 HLX.out.2)
            have HWN : Hid (∀ d, wm rk (addP P (L.drop (k + 1))) d = wm rk (addP P (((dx : Int), xi, xm) :: L.drop (k + 1))) d) := fun d => wm_skip hwf2 d
            clear hW hbW hQ hab hmem ho hwf2 e0 e1 e2 hgl
            go_wp2_with fail
            refine HAB.out.mono ?_
            rintro e w3 ⟨rfl, hw3⟩
            rw [hw3]
            clear hw3
            go_wp2_with fail
            go_roundw
            case rel => exact ⟨k + 1, ck, by omega, by go_num, by rw [HNX.out, HNO.out]; exact HCW.out.congr HWN.out, by rw [HNX.out, HNO.out]; exact HFN.out⟩
            case measure => simp [intOf]; omega
          | false =>
            have hmem : ¬ (dx : Int) ∈ rk.vict := fun hm => by rw [(HFK.out.vict _).2 hm] at ho; cases ho
            rw [decide_eq_false hmem] at hab
            have HAB := hid_l hab
            obtain ⟨g1, g2, g3⟩ := HFK.out.got ho HLX.out.1 HLX.out.2
            have HGY := hid_l (grantR_yes (doF := doN way n) (x := ((dx : Int), xi, xm)) g1)
            have HGT : Hid (Good (gotR rk (dx : Int)) ∧ pot (gotR rk (dx : Int)) ≤ 47 ∧ sum6 (gotR rk (dx : Int)).behind ≤ n) := by
              obtain ⟨a1, a2⟩ := got_ok HGK2.out.1 g1
              exact ⟨a1, Nat.le_trans a2 HGK2.out.2.1, HGK2.out.2.2⟩
            have HFG : Hid (Fits (gotR rk (dx : Int)) (addP P (L.drop (k + 1)))) := g3
            have HOP : Hid (rk.op (dx : Int) = ((dx : Int), xm, xi)) := by show _ = _; have := congrArg lkOf g2; rw [lkOf_lkOf] at this; exact this.symm
            have HWN : Hid (∀ d, wm (gotR rk (dx : Int)) (addP P (L.drop (k + 1))) d = wm rk (addP P (((dx : Int), xi, xm) :: L.drop (k + 1))) d) := fun d => wm_got (x := ((dx : Int), xi, xm)) d
            have HPN : Hid (addP P (L.drop (k + 1)) (dx : Int) = none) := by show _ = none; rw [addP_off HLX.out.1]; exact HLX.out.2
            have hl47 : rk.told.length ≤ 47 := by have := HGK2.out.2.1; unfold pot at this; omega
            have HOO : Hid (Calls Tryz.prog 72 #[.agg #[.int .i64 (dx : Int), .int .i64 xi, .int .i64 xm]] W fun e w' => e = .returned (.agg #[.int .i64 (dx : Int), .int .i64 xm, .int .i64 xi]) ∧ Below W.heap.size W w') := opOf_run ((dx : Int), xi, xm) HXM.out W
            clear hW hbW hQ hab hmem ho e0 e1 e2 hgl g1 g2 g3
            go_wp2_with fail
            refine HAB.out.mono ?_
            rintro e w3 ⟨rfl, hw3⟩
            rw [hw3]
            clear hw3 HAB
            go_wp2_with fail
            refine HOO.out.mono ?_
            rintro e w4 ⟨rfl, hb4⟩
            have HC4 := hid_l (HCW.out.below hb4)
            have HB4 := hid_l (HBX.out.below hb4)
            clear hb4 p0 p1 p2 HCW HBX HOO hPW
            go_wp2_with fail
            refine (tell_run ((dx : Int), xm, xi) HC4.out.run.run hl47).mono ?_
            rintro e w5 ⟨rfl, hst5⟩
            have hbx5 : LkBox w5 Q ((dx : Int), xi, xm) := by
              obtain ⟨_, _, h1, _⟩ := hst5
              exact HB4.out.turn h1 HQF.out
            obtain ⟨c5, hc5⟩ := HC4.out.step hst5
            have HC5 : Hid (CameAt w w5 R way c (.slice (some ⟨gq, 0, none⟩) L.length q1) L (gotR rk (dx : Int)) (wm (gotR rk (dx : Int)) (addP P (L.drop (k + 1)))) c5) := by
              have h1 := hc5.as (r1 := gotR rk (dx : Int)) rfl (by show rk.told ++ [rk.op (dx : Int)] = rk.told ++ [((dx : Int), xm, xi)]; rw [HOP.out]) rfl rfl
              exact h1.congr HWN.out
            obtain ⟨p0, p1, p2⟩ := hbx5
            simp only at p0 p1 p2
            clear hst5 hc5 HC4 HB4
            go_wp2_with fail
            refine (HGO.out R (gotR rk (dx : Int)) c5 (addP P (L.drop (k + 1))) dx w5 HC5.out.run.run HGT.out.1 HFG.out HPN.out hd1 hd6 HGT.out.2.1 HGT.out.2.2).mono ?_
            rintro e w6 ⟨rfl, hst6⟩
            obtain ⟨c6, hc6⟩ := HC5.out.step hst6
            have HC6 := hid_l hc6
            have HF6 := hid_l (drain_fits HDO.out HDF.out (dx : Int) (by omega) (by omega) ((gotR rk (dx : Int)).behind (dx : Int)).length (gotR rk (dx : Int)) HGT.out.1 HFG.out)
            clear hst6 hc6 p0 p1 p2
            go_wp2_with fail
            go_roundw
            case rel => exact ⟨k + 1, c6, by omega, by go_num, by rw [HNX.out, HGY.out]; exact HC6.out, by rw [HNX.out, HGY.out]; exact HF6.out⟩
            case measure => simp [intOf]; omega
        · have hlt' : ¬ (k : Int) < (L.length : Int) := by omega
          obtain rfl : k = L.length := by omega
          have HEND : Hid (freeR (doN way n) r t = rk) := by show freeR _ _ _ = _; rw [HTGT.out, ← HRK.out, List.take_length]
          rw [List.drop_length] at HCK
          go_wp2_with fail
          go_end0
          exact ⟨rfl, by rw [HEND.out]; exact HCK.out.run.done⟩
end Go.Proofs.YtmjjiehnjghndaaGreat

namespace Go.Proofs.YtmjjiehnjghndaaGreat

theorem Good.tabs {r : Runr} (h : Good r) (hp : pot r ≤ 47) : r.tab.1.length ≤ 100 ∧ r.tab.2.length ≤ 100 ∧ r.told.length ≤ 47 ∧ r.vict.length ≤ 6 := by
  have h1 := h.size
  have h2 := h.vict
  unfold pot at hp
  exact ⟨by omega, by omega, by omega, by omega⟩
theorem abort0_pot {r : Runr} {t : Int} (h1 : 1 ≤ t) (h6 : t ≤ 6) (ho : r.out t = false) : pot (abort0 r t) ≤ pot r := by
  have hc : (cnt6 fun d => !setF r.out t true d) + 1 = cnt6 fun d => !r.out d := by
    rw [← cnt_drop (f := fun d => !r.out d) h1 h6 (by simp [ho])]
    congr 2
    funext d
    unfold setF
    split <;> rfl
  have h2 : sum6 (setF r.behind t []) ≤ sum6 r.behind := sum_mono fun d => by
    unfold setF
    split
    · simp
    · exact Nat.le_refl _
  have h3 := cnt_false (f := r.waits) (d := t)
  unfold pot abort0
  dsimp only
  rw [List.length_append, List.length_singleton]
  omega
theorem abort0_sum (r : Runr) (t : Int) : sum6 (abort0 r t).behind ≤ sum6 r.behind := sum_mono fun d => by
  show (setF r.behind t [] d).length ≤ _
  unfold setF
  split
  · simp
  · exact Nat.le_refl _
end Go.Proofs.YtmjjiehnjghndaaGreat
