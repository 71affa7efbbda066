/-
  PROVED HERE: strict.lane's small methods, over a run in memory: tell, isAborted, isWaiting, waitsFor; lockOf and opOf.
  Conditions: the lists are short; for waitsFor what is said of those that wait fits the table.
  PROVED HERE: graph.stepsOf tells of right edges from which deal one leads to which. Old memory stays as it was.
  Conditions: none.
-/
import Derived.Test.YtccjognnehoodahGreatMgbt
import Derived.Test.YtccjognnehoodahGreatMgbv
import Derived.Test.YtccjognnehoodahGreatMgbp
import Derived.Test.YtccjognnehoodahGreatMgag
namespace Go.Proofs.YtccjognnehoodahGreat
open Go.RowKit

theorem hid_l {p : Prop} (h : p) : Hid p := h
theorem zero_int (w : World) : (zeroValue 3).run Tryz.prog w = .ok (.int .i64 0) w := by kernel_rfl
theorem zero_lk (w : World) : (zeroValue 166).run Tryz.prog w = .ok (.agg #[.int .i64 0, .int .i64 0, .int .i64 0]) w := by kernel_rfl
theorem zero_ops (w : World) : (zeroValue 22).run Tryz.prog w = .ok (.slice none 0 0) w := by kernel_rfl
theorem infoOpL : (Tryz.prog.info? 51).map (fun i => (i.zero, i.size, i.bytes)) = some (some (.agg #[.int .i64 0, .int .i64 0, .int .i64 0]), 3, 24) := by kernel_rfl
/-- The map of those that wait. -/
def wm (r : Runr) (P : Int → Option Op3) (d : Int) : Option Value := if r.waits d = true ∧ P d = none then some (lockV (lkOf (r.op d))) else none
section
variable {w w1 w2 W : World} {R n q : Nat} {way : Int} {r : Runr} {g : Int → Option Value} {c : Lay} {ob : Obj} {ad : Option Addr} {v2 : Value}
/-- An append to what is told, in a region that draws. -/
theorem LaneAt.tellD {x : Op3} (h : LaneAt W R way r g c) (e : c.tv = .slice ad n q) (hn : r.told.length = n) (hown : w2.ownsRow 0 51 3 v2 (n + 1) (flat r.told ++ flat [x])) (hgr : (W.drew.alloc ob).grownBy w2 (Value.slice ad n q).ownBlock) (hap : ∀ k, v2.ownBlock = some k → (Value.slice ad n q).ownBlock = some k ∨ (W.drew.alloc ob).heap.size ≤ k) :
    w2.cell? ⟨R, 2, none⟩ = some (.slice ad n q) ∧ w2.frozen? ⟨R, 2, none⟩ = false ∧ LaneStep W (w2.setCell ⟨R, 2, none⟩ v2) R way c { r with told := r.told ++ [x] } g := by
  have htu : Turns (fun k => c.tv.ownBlock = some k) W w2 := by rw [e]; exact turn_grown hgr
  rw [← e]
  exact h.pushTold htu (by rw [hn]; exact hown) fun k hk => by
    rcases apart_later hap k hk with h1 | h1
    · exact .inl (by rw [e]; exact h1)
    · exact .inr h1
end
set_option maxHeartbeats 4000000 in
set_option maxRecDepth 100000 in
theorem tell_run {R : Nat} {way : Int} {r : Runr} {g : Int → Option Value} {c : Lay} (x : Op3) {w : World} (h : LaneAt w R way r g c) (hl : r.told.length ≤ 47) :
    Calls Tryz.prog 110 #[.pointer (some ⟨R, 0, none⟩), lockV x] w fun e w' => e = .returned (.tuple #[]) ∧ LaneStep w w' R way c { r with told := r.told ++ [x] } g := by
  obtain ⟨t, a, i⟩ := x
  obtain ⟨i0, hi, hz0, hs0, hy0⟩ := info_parts infoOpL
  have HI : Hid (Tryz.prog.info? 51 = some i0 ∧ i0.zero = some (.agg #[.int .i64 0, .int .i64 0, .int .i64 0]) ∧ i0.size = 3 ∧ i0.bytes = 24) := ⟨hi, hz0, hs0, hy0⟩
  have HL := hid_l h
  clear hi hz0 hs0 hy0
  go_enter Tryz.func110, Tryz.ntmps110
  go_upto_region 1 with (fail)
  obtain ⟨W, hW⟩ : ∃ W, W = w.alloc (.cells #[.int .i64 t, .int .i64 a, .int .i64 i] 51) := ⟨_, rfl⟩
  rw [← hW]
  have hbW : Below w.heap.size w W := by rw [hW]; exact (Below.refl _ w).alloc (Nat.le_refl _) _
  have p0 : W.cell? ⟨w.heap.size, 0, none⟩ = some (.int .i64 t) := by rw [hW]; simp
  have p1 : W.cell? ⟨w.heap.size, 1, none⟩ = some (.int .i64 a) := by rw [hW]; simp
  have p2 : W.cell? ⟨w.heap.size, 2, none⟩ = some (.int .i64 i) := by rw [hW]; simp
  obtain ⟨P, hP⟩ : ∃ P, P = w.heap.size := ⟨_, rfl⟩
  rw [← hP] at p0 p1 p2 ⊢
  have hLW := h.below hbW
  have HLW := hid_l hLW
  have HBW := hid_l hbW
  obtain ⟨ad5, c5, e5, -⟩ := own_slice3 hLW.told
  obtain ⟨n5, hn5⟩ : ∃ n, r.told.length = n := ⟨_, rfl⟩
  rw [hn5] at e5 hl
  have c2 := hLW.c2
  rw [e5] at c2
  have hRW := hLW.lt
  have HV : Hid (W.ownsRow 0 51 3 (.slice ad5 n5 c5) n5 (flat r.told)) := by show World.ownsRow _ _ _ _ _ _ _; have := hLW.told; rw [e5, hn5] at this; exact this
  have HPT : Hid (∀ v2 w2 (ob : Obj), w2.ownsRow 0 51 3 v2 (n5 + 1) (flat r.told ++ flat [(t, a, i)]) → (W.drew.alloc ob).grownBy w2 (Value.slice ad5 n5 c5).ownBlock → (∀ k, v2.ownBlock = some k → (Value.slice ad5 n5 c5).ownBlock = some k ∨ (W.drew.alloc ob).heap.size ≤ k) → w2.cell? ⟨R, 2, none⟩ = some (.slice ad5 n5 c5) ∧ w2.frozen? ⟨R, 2, none⟩ = false ∧ LaneStep W (w2.setCell ⟨R, 2, none⟩ v2) R way c { r with told := r.told ++ [(t, a, i)] } g) := fun v2 w2 ob h1 h2 h3 => HLW.out.tellD e5 hn5 h1 h2 h3
  have hc2 : ∀ ob : Obj, (W.alloc ob).cell? ⟨R, 2, none⟩ = some (.slice ad5 n5 c5) := fun ob => by rw [World.cell?_alloc_lt _ _ ⟨R, 2, none⟩ hRW]; exact c2
  have hPW : P < W.heap.size := World.block_lt_of_cell? W _ p0
  clear hW hbW hP hLW e5 hn5 h
  go_region_law (refine step_append_apart rfl (.tmp 8) (.tmp 10) 22 rfl 0 51 i0 (.agg #[.int .i64 0, .int .i64 0, .int .i64 0]) 3 24 Tryz.underlying22 HI.out.1 HI.out.2.1 HI.out.2.2.1 HI.out.2.2.2 rfl (by decide) (.slice ad5 n5 c5) n5 (flat r.told) (by simp [Act.eval]) (HV.out.alloc _) ⟨W.heap.size, 0, none⟩ 1 1 (flat [(t, a, i)]) (by simp [Act.eval]) rfl (lock_new W (t, a, i) _) (flat_one _) (by unfold maxLen; omega) (by omega) (Nat.zero_le _) ?_; intro v2 w2 hown2 hgr2 hap2; obtain ⟨g0, g1, g2⟩ := HPT.out v2 w2 _ hown2 hgr2 hap2; clear hap2 hgr2; obtain ⟨ad6, c6, rfl, -⟩ := own_slice3 hown2; have HK2 := hid_l g2; clear g2 hown2)
  all_goals
    go_wp2_with fail
    go_end0
    exact ⟨rfl, LaneStep.later HBW.out HK2.out⟩
theorem isAborted_run {R : Nat} {way : Int} {r : Runr} {g : Int → Option Value} {c : Lay} {w : World} (h : LaneAt w R way r g c) {d : Int} (hd : Wf d) :
    Calls Tryz.prog 80 #[.pointer (some ⟨R, 0, none⟩), .int .i64 d] w fun e w' => e = .returned (.bool (decide (d ∈ r.vict))) ∧ w' = w := by
  have c3 := h.c3
  have HM := hid_l h.outs
  have HV := hid_l (victF_some r.vict d)
  clear h
  go_enter Tryz.func80, Tryz.ntmps80
  go_wp2_with (at_lookup; refine wp_look _ rfl (.tmp 11) (.tmp 12) 81 true rfl 3 Tryz.underlying81 (.int .i64 0) (zero_int _) c.A r.vict.length (victF r.vict) rfl HM.out d rfl hd _ _ rfl HV.out ?_)
  go_ret
  exact ⟨rfl, rfl⟩
/-- What is held in it are locks. -/
def LockG (g : Int → Option Value) : Prop := ∀ d, ∃ x : Op3, (g d).getD (.agg #[.int .i64 0, .int .i64 0, .int .i64 0]) = lockV x
theorem wm_lock (r : Runr) (P : Int → Option Op3) : LockG (wm r P) := fun d => by
  unfold wm
  split
  · exact ⟨_, rfl⟩
  · exact ⟨(0, 0, 0), rfl⟩
theorem isWaiting_run {R : Nat} {way : Int} {r : Runr} {g : Int → Option Value} {c : Lay} {w : World} (h : LaneAt w R way r g c) (hg : LockG g) {d : Int} (hd : Wf d) :
    Calls Tryz.prog 81 #[.pointer (some ⟨R, 0, none⟩), .int .i64 d] w fun e w' => e = .returned (.bool (g d).isSome) ∧ Below w.heap.size w w' := by
  have c4 := h.c4
  obtain ⟨m, hm⟩ := h.wts
  have HM := hid_l hm
  obtain ⟨⟨x, y, z⟩, hx⟩ := hg d
  have HX := hid_l hx
  obtain ⟨b, hb⟩ : ∃ b, (g d).isSome = b := ⟨_, rfl⟩
  rw [hb]
  clear h hg hm hx
  go_enter Tryz.func81, Tryz.ntmps81
  go_wp2_with (at_lookup; refine wp_look _ rfl (.tmp 11) (.tmp 12) 88 true rfl 166 Tryz.underlying88 (.agg #[.int .i64 0, .int .i64 0, .int .i64 0]) (zero_lk _) c.W m g rfl HM.out d rfl hd (.agg #[.int .i64 x, .int .i64 y, .int .i64 z]) b HX.out hb ?_)
  go_ret
  exact ⟨rfl, (Below.refl _ w).alloc (Nat.le_refl _) _⟩
theorem lockOf_run (o : Op3) (ho : o.2.1 = 1 ∨ o.2.1 = 2) (w : World) : Calls Tryz.prog 112 #[lockV o] w fun e w' => e = .returned (lockV (lkOf o)) ∧ Below w.heap.size w w' := by
  obtain ⟨t, a, i⟩ := o
  have hb : ∀ A B : Obj, Below w.heap.size w ((w.alloc A).alloc B) := fun A B => ((Below.refl _ w).alloc (Nat.le_refl _) A).alloc (by simp) B
  rcases ho with rfl | rfl
  · go_enter Tryz.func112, Tryz.ntmps112
    go_wp2_with fail
    refine bodyPost_ret (v := .agg #[.int .i64 t, .int .i64 i, .int .i64 1]) (by simp [results, Tryz.results112, go_sem]) rfl ⟨rfl, ?_⟩
    exact hb _ _
  · go_enter Tryz.func112, Tryz.ntmps112
    go_wp2_with fail
    refine bodyPost_ret (v := .agg #[.int .i64 t, .int .i64 i, .int .i64 2]) (by simp [results, Tryz.results112, go_sem]) rfl ⟨rfl, ?_⟩
    exact hb _ _
theorem opOf_run (o : Op3) (ho : o.2.2 = 1 ∨ o.2.2 = 2) (w : World) : Calls Tryz.prog 136 #[lockV o] w fun e w' => e = .returned (lockV (lkOf o)) ∧ Below w.heap.size w w' := by
  obtain ⟨t, i, a⟩ := o
  have hb : ∀ A B : Obj, Below w.heap.size w ((w.alloc A).alloc B) := fun A B => ((Below.refl _ w).alloc (Nat.le_refl _) A).alloc (by simp) B
  rcases ho with rfl | rfl
  · go_enter Tryz.func136, Tryz.ntmps136
    go_wp2_with fail
    refine bodyPost_ret (v := .agg #[.int .i64 t, .int .i64 1, .int .i64 i]) (by simp [results, Tryz.results136, go_sem]) rfl ⟨rfl, ?_⟩
    exact hb _ _
  · go_enter Tryz.func136, Tryz.ntmps136
    go_wp2_with fail
    refine bodyPost_ret (v := .agg #[.int .i64 t, .int .i64 2, .int .i64 i]) (by simp [results, Tryz.results136, go_sem]) rfl ⟨rfl, ?_⟩
    exact hb _ _
theorem forU_lock {s : Tab2} {x : Op3} (h : isLock x = true) : forU s x = (forT s x, 0) := by unfold forU; rw [if_pos h]
set_option maxHeartbeats 4000000 in
set_option maxRecDepth 100000 in
theorem waitsFor_run {R : Nat} {way : Int} {r : Runr} {P : Int → Option Op3} {c : Lay} {w : World} (h : LaneAt w R way r (wm r P) c) (hf : Fits r P) {d : Int} (hd : Wf d) (hl1 : r.tab.1.length ≤ 400) (hl2 : r.tab.2.length ≤ 400) :
    Calls Tryz.prog 147 #[.pointer (some ⟨R, 0, none⟩), .int .i64 d] w fun e w' => ∃ v, e = .returned v ∧ OwnI w' w.heap.size v (whomR r.tab d) ∧ Below w.heap.size w w' := by
  have c4 := h.c4
  have c1 := h.c1
  have hRl := h.lt
  obtain ⟨m, hm⟩ := h.wts
  have HM := hid_l hm
  have HL := hid_l h
  by_cases hw : r.waits d = true ∧ P d = none
  · have HX : Hid ((wm r P d).getD (.agg #[.int .i64 0, .int .i64 0, .int .i64 0]) = lockV (lkOf (r.op d)) ∧ (wm r P d).isSome = true) := by unfold wm; rw [if_pos hw]; exact ⟨rfl, rfl⟩
    have HW := hid_l (hf.whom_yes hw.1 hw.2)
    have HK := hid_l (hf.lock d hw.1).1
    obtain ⟨⟨x, y, z⟩, hx⟩ : ∃ x, lkOf (r.op d) = x := ⟨_, rfl⟩
    rw [hx] at HX HW HK
    have HT : Hid (∀ W, Below w.heap.size w W → Calls Tryz.prog 162 #[.pointer (some ⟨c.T, 0, none⟩), .agg #[.int .i64 x, .int .i64 y, .int .i64 z]] W fun e w' => ∃ ad n q, e = .returned (.tuple #[.slice ad n q, .nilIface]) ∧ OwnI w' w.heap.size (.slice ad n q) (whomR r.tab d) ∧ Below w.heap.size w w') := fun W hW => by
      refine (pTab_for W c.T c.F r.tab (x, y, z) (HL.out.below hW).tab hl1 hl2).mono ?_
      rintro e w' ⟨v', rfl, hi, hb⟩
      rw [forU_lock HK.out] at hi ⊢
      have hi2 := hi
      obtain ⟨ad, cap, rfl, -⟩ := own_slice3 hi
      exact ⟨ad, _, cap, rfl, by rw [HW.out]; exact hi2.less hW.size, hW.trans (hb.mono hW.size)⟩
    clear hw hx hf h hm
    go_enter Tryz.func147, Tryz.ntmps147
    go_wp2_with (at_lookup; refine wp_look _ rfl (.tmp 13) (.tmp 14) 88 true rfl 166 Tryz.underlying88 (.agg #[.int .i64 0, .int .i64 0, .int .i64 0]) (zero_lk _) c.W m (wm r P) rfl HM.out d rfl hd (.agg #[.int .i64 x, .int .i64 y, .int .i64 z]) true HX.out.1 HX.out.2 ?_)
    go_region_with (first | (go_at_call 162; refine (HT.out _ ?_).mono ?_; exact (((Below.refl _ w).alloc (Nat.le_refl _) _)).drew; rintro e w2 ⟨ad2, n2, q2, rfl, hi2, hb2⟩))
    all_goals
      go_wp2_with fail
      go_ret
      exact ⟨_, rfl, hi2, hb2⟩
  · have HX : Hid ((wm r P d).getD (.agg #[.int .i64 0, .int .i64 0, .int .i64 0]) = .agg #[.int .i64 0, .int .i64 0, .int .i64 0] ∧ (wm r P d).isSome = false) := by unfold wm; rw [if_neg hw]; exact ⟨rfl, rfl⟩
    have HW := hid_l (hf.whom_no hw)
    clear hw hf h hm
    go_enter Tryz.func147, Tryz.ntmps147
    go_wp2_with (at_lookup; refine wp_look _ rfl (.tmp 13) (.tmp 14) 88 true rfl 166 Tryz.underlying88 (.agg #[.int .i64 0, .int .i64 0, .int .i64 0]) (zero_lk _) c.W m (wm r P) rfl HM.out d rfl hd (.agg #[.int .i64 0, .int .i64 0, .int .i64 0]) false HX.out.1 HX.out.2 ?_)
    go_ret
    exact ⟨_, rfl, by rw [HW.out]; exact World.ownsRow_nil _ _ _ _, (Below.refl _ w).alloc (Nat.le_refl _) _⟩
end Go.Proofs.YtccjognnehoodahGreat

namespace Go.Proofs.YtccjognnehoodahGreat
open Go.RowKit

theorem set_steps (l : List Edge2) (t a : Nat) : setM (stepsS l) t a = stepsS (l ++ [((t : Int), (a : Int))]) := by
  funext i k
  rw [stepsS_snoc, cast_beq, cast_beq]
  unfold setM
  by_cases h : i = t ∧ k = a
  · rw [if_pos h, h.1, h.2]; simp
  · rw [if_neg h]
    by_cases h1 : i = t
    · by_cases h2 : k = a
      · exact absurd ⟨h1, h2⟩ h
      · simp [h2]
    · simp [h1]

set_option maxHeartbeats 4000000 in
theorem stepsOf_any (l : List Edge2) (v : Value) (w : World) (hI : IsEdges w v l) (hd : ∀ e ∈ l, (1 ≤ e.1 ∧ e.1 ≤ 6) ∧ (1 ≤ e.2 ∧ e.2 ≤ 6)) (hl : l.length ≤ 60) :
    Calls Tryz.prog 168 #[v] w fun e w' => e = .returned (.agg (cells49 (stepsS l))) ∧ Below w.heap.size w w' := by
  obtain ⟨ad, b, off, cap, rfl, ha, -, hbB, hops⟩ := hI
  have HO : Hid (∀ W, Below w.heap.size w W → ∀ k, k < l.length → ad = some ⟨b, off, none⟩ ∧ W.cell? ⟨b, off + k * 2, none⟩ = some (.int .i64 (l.getD k (0, 0)).1) ∧ W.cell? ⟨b, off + k * 2 + 1, none⟩ = some (.int .i64 (l.getD k (0, 0)).2)) := fun W hW k hk => ⟨ha (by omega), (hops.below hW hbB) k hk⟩
  have HD : Hid (∀ e ∈ l, (1 ≤ e.1 ∧ e.1 ≤ 6) ∧ (1 ≤ e.2 ∧ e.2 ≤ 6)) := hd
  clear ha hbB hops hd
  go_enter Tryz.func168, Tryz.ntmps168
  go_wp2
  go_loopw [8] (fun v8 wr => ∃ k : Nat, k ≤ l.length ∧ v8 = .int .i64 k ∧ Below w.heap.size w wr ∧ MatAt wr w.heap.size (fun _ _ => false) ∧ MatAt wr (w.heap.size + 1) (stepsS (l.take k))) (fun v8 _ => l.length - (intOf v8).toNat)
  case atStart =>
    refine ⟨0, Nat.zero_le _, rfl, ((Below.refl _ w).alloc (Nat.le_refl _) _).alloc (by simp) _, (mat_fresh w _ rfl).alloc _, (mat_fresh2 w _ _ rfl).congr rfl⟩
  case round =>
    obtain ⟨k, hk, rfl, hbel, hz, hs⟩ := hrel
    have hB1 := hs.lt
    have HZ : Hid (MatAt wr w.heap.size (fun _ _ => false)) := hz
    have HS : Hid (MatAt wr (w.heap.size + 1) (stepsS (l.take k))) := hs
    clear hz hs
    by_cases hlt : k < l.length
    · obtain ⟨rfl, c0, c1⟩ := HO.out wr hbel k hlt
      obtain ⟨⟨t, a⟩, ho⟩ : ∃ o : Edge2, l.getD k (0, 0) = o := ⟨_, rfl⟩
      rw [ho] at c0 c1
      have hmem : (t, a) ∈ l := by rw [← ho]; simp [List.getD, List.getElem?_eq_getElem hlt]
      have hta := HD.out _ hmem
      simp only at hta c0 c1
      obtain ⟨t, rfl⟩ : ∃ n : Nat, t = n := ⟨t.toNat, by omega⟩
      obtain ⟨a, rfl⟩ : ∃ n : Nat, a = n := ⟨a.toNat, by omega⟩
      have HT : Hid (l.take (k + 1) = l.take k ++ [((t : Int), (a : Int))]) := by
        show l.take (k + 1) = l.take k ++ [((t : Int), (a : Int))]
        rw [List.take_succ_eq_append_getElem hlt, ← ho]; simp [List.getD, List.getElem?_eq_getElem hlt]
      have ht1 : 1 ≤ t := by omega
      have ht6 : t ≤ 6 := by omega
      have ha1 : 1 ≤ a := by omega
      have ha6 : a ≤ 6 := by omega
      clear ho hmem hta
      have hsz := hbel.size
      have ht7 : (t : Int) < 7 := by omega
      have ha7 : (a : Int) < 7 := by omega
      have hB0 : w.heap.size < wr.heap.size := by omega
      have f0 := HS.out.cell (i := t) (k := a) (by omega) (by omega)
      have z0 := HS.out.thaw (t * 7 + a)
      go_wp2
      go_region
      all_goals
        go_wp2
        go_roundw
        case rel => exact ⟨k + 1, by omega, by go_num, ((hbel.setCell (by simp) _).alloc (by simpa using hsz) _).drew, ((HZ.out.far _ (by simp)).alloc _).drew, (((HS.out.set (by omega)).alloc _).drew).congr (by rw [HT.out, set_steps])⟩
        case measure => simp [intOf]; omega
    · have HS' : Hid (MatAt wr (w.heap.size + 1) (stepsS l)) := by
        have h1 := HS.out
        rw [List.take_of_length_le (by omega)] at h1
        exact h1
      clear HS
      go_wp2_with (first | refine wpList_load_row rfl 212 (.tmp 3) rfl (w.heap.size + 1) rfl 212 (cells49 (stepsS l)) (0, 0) _ HS'.out Tryz.underlying212 rfl (mat_info' _) ?_ | refine wpList_store_row rfl 212 (.tmp 2) (.tmp 19) rfl w.heap.size (cells49 (stepsS l)) rfl rfl 212 (cells49 fun _ _ => false) HZ.out (mat_info' _) (by rw [cells49_size, cells49_size]) (cells49_one _) ?_)
      exact bodyPost_ret (v := .agg (cells49 (stepsS l))) (results_cell_row Tryz.results168 _ _ w.heap.size 212 (cells49 (stepsS l)) (0, 0) _ rfl (setRow_heap _ _ _ _ _ _ HZ.out) Tryz.underlying212 rfl (mat_info' _)) rfl ⟨rfl, below_setRow hbel (Nat.le_refl _) _⟩
end Go.Proofs.YtccjognnehoodahGreat
