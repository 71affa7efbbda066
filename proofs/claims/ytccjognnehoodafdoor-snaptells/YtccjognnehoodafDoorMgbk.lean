/-
  PROVED HERE: package course: what an op that is asked for comes to, by any rules that are handed in.
  Conditions: what the rules answer is a premise; the lists are short.
  PROVED HERE: package course: what a Write that is asked for comes to.
  Conditions: the lists are short.
-/
import Derived.Test.YtccjognnehoodafDoorMgbj
namespace Go.Proofs.YtccjognnehoodafDoor
open Go.RowKit

/-- How it stands behind an op. -/
def CameTo (w0 w' : World) (R : Nat) (S F : Value) (q : Crs) : Prop := ∃ c', CrsAt w0 w' R S F q c'
theorem int_newQ (w : World) (x : Int) (t : TypeId) : ∀ j u, ([Value.int .i64 x] : List Value)[j]? = some u → (w.alloc (.cells #[.int .i64 x] t)).cell? ((⟨w.heap.size, 0, none⟩ : Addr).add j) = some u := by
  intro j u hj
  rw [Addr.add_lit]
  rcases j with _ | j
  · simpa using hj
  · simp at hj
theorem int_oneQ (x : Int) : ∀ u ∈ ([Value.int .i64 x] : List Value), u.oneCell' = true := by intro u hu; rw [List.mem_singleton.1 hu]; rfl
theorem heap_alloc_ltQ (w : World) (ob : Obj) {g : Nat} (h : g < w.heap.size) : (w.alloc ob).heap[g]? = w.heap[g]? := ((Below.refl w.heap.size w).alloc (Nat.le_refl _) ob).block g h
/-- Where an op is in its box, and its deal has begun. -/
theorem begun_crs {w0 w w1 : World} {R : Nat} {S F : Value} {q : Crs} {c : CLay} {t a i : Int} (h : CrsAt w0 w R S F q c) (ht : Turns (fun k => k = c.B) (w.alloc (.cells #[.int .i64 t, .int .i64 a, .int .i64 i] 59)) w1) : CrsBox w1 w.heap.size t a i ∧ (∀ j k, j < 19 → cpart R c j k → k ≠ w.heap.size) := by
  refine ⟨(crsBox_new w t a i _).turn ht fun e => ?_, fun j k hj hk e => ?_⟩
  · have := h.part_lt 2 c.B (by omega) rfl
    omega
  · have := h.part_lt j k hj hk
    omega
set_option maxHeartbeats 8000000 in
set_option maxRecDepth 100000 in
theorem come_abort {w0 w : World} {R : Nat} {S F : Value} {q : Crs} {c : CLay} (h : CrsAt w0 w R S F q c) {t : Int} (a i : Int) (h1 : 1 ≤ t) (h6 : t ≤ 6) (ha1 : a ≠ 1) (ha2 : a ≠ 2) (ha3 : a ≠ 3) :
    Calls Tryd.prog 46 #[.pointer (some ⟨R, 0, none⟩), .agg #[.int .i64 t, .int .i64 a, .int .i64 i]] w fun e w' => e = .returned (.tuple #[]) ∧ CameTo w0 w' R S F (begQ q t) := by
  have HL := hid_q h
  have b1 : (a == 1) = false := by simpa using ha1
  have b2 : (a == 2) = false := by simpa using ha2
  have b3 : (a == 3) = false := by simpa using ha3
  have HBG := hid_q (begin_crs (h.alloc (.cells #[.int .i64 t, .int .i64 a, .int .i64 i] 59)) h1 h6)
  clear h ha1 ha2 ha3
  go_enter Tryd.func46, Tryd.ntmps46
  go_wp2_with fail
  refine HBG.out.mono ?_
  rintro e w1 ⟨rfl, hc1, ht1⟩
  obtain ⟨hbx, -⟩ := begun_crs HL.out ht1
  obtain ⟨p0, p1, p2⟩ := hbx
  have HC1 := hid_q hc1
  clear hc1 ht1
  go_wp2_with fail
  go_end0
  exact ⟨rfl, c, HC1.out⟩
set_option maxHeartbeats 8000000 in
set_option maxRecDepth 100000 in
theorem come_commit {K : World → Prop} {NF : Nat} {BF CF : Array Value} {fallF : Crs → Int → Bool} (hcall : RuleFn NF) (hF : FallK K NF BF CF fallF) {w0 w : World} (hK0 : K w0) {R : Nat} {S : Value} {q : Crs} {c : CLay} (h : CrsAt w0 w R S (.func (.func NF) BF CF) q c) (hq : CrsOk 999 q) {t : Int} (i : Int) (h1 : 1 ≤ t) (h6 : t ≤ 6) :
    Calls Tryd.prog 46 #[.pointer (some ⟨R, 0, none⟩), .agg #[.int .i64 t, .int .i64 3, .int .i64 i]] w fun e w' => e = .returned (.tuple #[]) ∧ CameTo w0 w' R S (.func (.func NF) BF CF) (if fallF (begQ q t) t = true then begQ q t else doneQ (begQ q t) t) := by
  have HL := hid_q h
  have HQ := hid_q (hq.beg t)
  have HBG := hid_q (begin_crs (h.alloc (.cells #[.int .i64 t, .int .i64 3, .int .i64 i] 59)) h1 h6)
  have hbt : ((begQ q t).began t).isSome = true := by
    unfold begQ
    split
    · assumption
    · show (setF q.began t (some q.done.length) t).isSome = true
      rw [setF_same]; rfl
  obtain ⟨q1, hq1⟩ : ∃ q1, begQ q t = q1 := ⟨_, rfl⟩
  rw [hq1] at HBG HQ hbt ⊢
  have HF : Hid (∀ W, CrsAt w0 W R S (.func (.func NF) BF CF) q1 c → Calls Tryd.prog NF (BF ++ #[.pointer (some ⟨R, 0, none⟩), .int .i64 t] ++ CF) W fun e w' => e = .returned (.bool (fallF q1 t)) ∧ Below W.heap.size W w') := fun W hW => hF w0 W R S _ q1 c t hK0 hW HQ.out h1 h6 hbt
  obtain ⟨i0, hi, hz0, hs0, hy0⟩ := info_parts infoInt
  have HI : Hid (Tryd.prog.info? 3 = some i0 ∧ i0.zero = some (.int .i64 0) ∧ i0.size = 1 ∧ i0.bytes = 8) := ⟨hi, hz0, hs0, hy0⟩
  obtain ⟨r, hr⟩ : ∃ r, (if fallF q1 t = true then q1 else doneQ q1 t) = r := ⟨_, rfl⟩
  rw [hr]
  have HR := hid_q hr
  clear h hF hq1 hbt hi hz0 hs0 hy0 hr hq
  go_enter Tryd.func46, Tryd.ntmps46
  go_wp2_with fail
  refine HBG.out.mono ?_
  rintro e W ⟨rfl, hc1, ht1⟩
  obtain ⟨hbx, hap⟩ := begun_crs HL.out ht1
  have HAP := hid_q hap
  obtain ⟨P, hP⟩ : ∃ P, P = w.heap.size := ⟨_, rfl⟩
  rw [← hP] at hbx HAP
  have HBX := hid_q hbx
  obtain ⟨p0, p1, p2⟩ := hbx
  have HC1 := hid_q hc1
  have k1 := hc1.c1
  have hRW := hc1.lt
  have hPW := HBX.out.lt
  rw [← hP]
  clear hc1 ht1 hap hP
  obtain ⟨B, hA1, hA2⟩ : ∃ B, B ≤ W.heap.size ∧ W.heap.size ≤ B := ⟨_, Nat.le_refl _, Nat.le_refl _⟩
  have hne : Nonempty (Later B W) := ⟨⟨W, Below.refl _ _⟩⟩
  have g0 : ∀ y : Later B W, y.W.cell? ⟨P, 0, none⟩ = some (.int .i64 t) := fun y => (y.h.cell (p := ⟨P, 0, none⟩) (by show P < B; omega)).trans p0
  have gR : ∀ y : Later B W, y.W.cell? ⟨R, 1, none⟩ = some (.func (.func NF) BF CF) := fun y => (y.h.cell (p := ⟨R, 1, none⟩) (by show R < B; omega)).trans k1
  have HCQ : Hid (∀ y : Later B W, Calls Tryd.prog NF (BF ++ #[.pointer (some ⟨R, 0, none⟩), .int .i64 t] ++ CF) y.W fun e w' => e = .returned (.bool (fallF q1 t)) ∧ ∃ z : Later B W, w' = z.W) := fun y => Later.at y hA1 (HF.out y.W (HC1.out.below (y.h.mono (by omega))))
  simp only [Array.append_assoc] at HCQ
  cases hf : fallF q1 t with
  | true =>
    have HR2 : Hid (r = q1) := by show r = q1; rw [← HR.out, if_pos hf]
    rw [hf] at HCQ
    clear hf
    go_wp2_with fail
    refine region_later B (by kernel_rfl) (by kernel_rfl) ?_
    repeat (first | go_big_quiet_skip | (go_big_quiet_want; go_big_quiet_op; first | go_big_quiet_on | (refine ⟨_, fun y => HCQ.out y, ?_⟩; go_big_quiet_on)))
    refine wpQuiet_nil ?_
    intro V hV
    obtain ⟨y, rfl⟩ := hV
    have HY := hid_q (HC1.out.below (y.h.mono (by omega)))
    go_wp2_with fail
    go_end0
    exact ⟨rfl, by rw [HR2.out]; exact ⟨c, HY.out⟩⟩
  | false =>
    have HR2 : Hid (r = doneQ q1 t) := by show r = doneQ q1 t; rw [← HR.out, if_neg (by rw [hf]; decide)]
    rw [hf] at HCQ
    clear hf
    go_wp2_with fail
    refine region_later B (by kernel_rfl) (by kernel_rfl) ?_
    repeat (first | go_big_quiet_skip | (go_big_quiet_want; go_big_quiet_op; first | go_big_quiet_on | (refine ⟨_, fun y => HCQ.out y, ?_⟩; go_big_quiet_on)))
    refine wpQuiet_nil ?_
    intro V hV
    obtain ⟨y, rfl⟩ := hV
    have HY := hid_q (HC1.out.below (y.h.mono (by omega)))
    obtain ⟨q0, -, -⟩ := HBX.out.below (y.h.mono (by omega))
    obtain ⟨V, hV⟩ : ∃ V, V = y.W := ⟨_, rfl⟩
    rw [← hV] at HY q0 ⊢
    clear hV g0 gR HCQ p0 p1 p2 k1 hRW hPW hA1 hA2
    obtain ⟨ad5, c5, e5, -⟩ := own_slice3 HY.out.done
    obtain ⟨n5, hn5⟩ : ∃ n, q1.done.length = n := ⟨_, rfl⟩
    have hl5 := HQ.out.lenD
    rw [hn5] at e5 hl5
    have c2 := HY.out.c2
    rw [e5] at c2
    have hRV := HY.out.lt
    have hPV := World.block_lt_of_cell? V _ q0
    simp only at hPV
    have HSZ : Hid (w0.heap.size ≤ V.heap.size) := HY.out.old.size
    have HV : Hid (V.ownsRow w0.heap.size 3 1 (.slice ad5 n5 c5) n5 (q1.done.map (Value.int .i64))) := by show World.ownsRow _ _ _ _ _ _ _; have := HY.out.done; rw [e5, hn5] at this; exact this
    have HPT : Hid (∀ v2 w2 (ob : Obj), w2.ownsRow w0.heap.size 3 1 v2 (n5 + 1) (q1.done.map (Value.int .i64) ++ [.int .i64 t]) → (V.drew.alloc ob).grownBy w2 (Value.slice ad5 n5 c5).ownBlock → (∀ k, v2.ownBlock = some k → (Value.slice ad5 n5 c5).ownBlock = some k ∨ (V.drew.alloc ob).heap.size ≤ k) → w2.cell? ⟨R, 2, none⟩ = some (.slice ad5 n5 c5) ∧ w2.frozen? ⟨R, 2, none⟩ = false ∧ CameTo w0 (w2.setCell ⟨R, 2, none⟩ v2) R S (.func (.func NF) BF CF) (doneQ q1 t)) := fun v2 w2 ob h1 h2 h3 => by
      have htu : Turns (fun k => c.dv.ownBlock = some k) V w2 := by rw [e5]; exact turn_grown h2
      obtain ⟨u1, u2, u3⟩ := HY.out.pushDone (t := t) htu (by rw [hn5]; exact h1) fun k hk => by
        rcases apart_later h3 k hk with h4 | h4
        · exact .inl (by rw [e5]; exact h4)
        · exact .inr h4
      rw [e5] at u1
      exact ⟨u1, u2, _, u3⟩
    have hc2 : ∀ ob : Obj, (V.alloc ob).cell? ⟨R, 2, none⟩ = some (.slice ad5 n5 c5) := fun ob => by rw [World.cell?_alloc_lt _ _ ⟨R, 2, none⟩ hRV]; exact c2
    clear e5 hn5
    go_wp2_with fail
    go_region_law (refine step_append_apart rfl (.tmp 72) (.tmp 75) 23 rfl w0.heap.size 3 i0 (.int .i64 0) 1 8 Tryd.underlying23 HI.out.1 HI.out.2.1 HI.out.2.2.1 HI.out.2.2.2 rfl (by decide) (.slice ad5 n5 c5) n5 (q1.done.map (Value.int .i64)) (by simp [Act.eval]) (HV.out.alloc _) ⟨V.heap.size, 0, none⟩ 1 1 [.int .i64 t] (by simp [Act.eval]) rfl (int_newQ V t _) (int_oneQ t) (by unfold maxLen; omega) (by omega) (by have := HSZ.out; simp; omega) ?_; intro v2 w2 hown2 hgr2 hap2; obtain ⟨g0, g1, g2⟩ := HPT.out v2 w2 _ hown2 hgr2 hap2; clear hap2 hgr2; obtain ⟨ad6, c6, rfl, -⟩ := own_slice3 hown2; have HK2 := hid_q g2; clear g2 hown2)
    all_goals
      go_wp2_with fail
      go_end0
      exact ⟨rfl, by rw [HR2.out]; exact HK2.out⟩
end Go.Proofs.YtccjognnehoodafDoor

namespace Go.Proofs.YtccjognnehoodafDoor
open Go.RowKit

set_option maxHeartbeats 16000000 in
set_option maxRecDepth 100000 in
theorem come_write {w0 w : World} {R : Nat} {S F : Value} {q : Crs} {c : CLay} (h : CrsAt w0 w R S F q c) (hq : CrsOk 999 q) {t : Int} (i : Int) (h1 : 1 ≤ t) (h6 : t ≤ 6) :
    Calls Tryd.prog 46 #[.pointer (some ⟨R, 0, none⟩), .agg #[.int .i64 t, .int .i64 2, .int .i64 i]] w fun e w' => e = .returned (.tuple #[]) ∧ CameTo w0 w' R S F (writeQ (begQ q t) t i) := by
  have HL := hid_q h
  have HQ := hid_q (hq.beg t)
  have HBG := hid_q (begin_crs (h.alloc (.cells #[.int .i64 t, .int .i64 2, .int .i64 i] 59)) h1 h6)
  obtain ⟨q1, hq1⟩ : ∃ q1, begQ q t = q1 := ⟨_, rfl⟩
  rw [hq1] at HBG HQ ⊢
  obtain ⟨i0, hi, hz0, hs0, hy0⟩ := info_parts infoInt
  have HI : Hid (Tryd.prog.info? 3 = some i0 ∧ i0.zero = some (.int .i64 0) ∧ i0.size = 1 ∧ i0.bytes = 8) := ⟨hi, hz0, hs0, hy0⟩
  obtain ⟨dt, hdt⟩ : ∃ d : Nat, t = d := ⟨t.toNat, by omega⟩
  have hwf := wf_deal h1 h6
  have HT : Hid (1 ≤ t ∧ t ≤ 6 ∧ t = dt ∧ dt < 7) := ⟨h1, h6, hdt, by omega⟩
  clear h hq1 hi hz0 hs0 hy0 hq h1 h6 hdt
  go_enter Tryd.func46, Tryd.ntmps46
  go_wp2_with fail
  refine HBG.out.mono ?_
  rintro e V ⟨rfl, hc1, ht1⟩
  obtain ⟨hbx, hap⟩ := begun_crs HL.out ht1
  have HAP := hid_q hap
  obtain ⟨P, hP⟩ : ∃ P, P = w.heap.size := ⟨_, rfl⟩
  rw [← hP] at hbx HAP
  have HBX := hid_q hbx
  obtain ⟨p0, p1, p2⟩ := hbx
  have HY := hid_q hc1
  have hRV := hc1.lt
  have hPV := HBX.out.lt
  rw [← hP]
  obtain ⟨m5, hm5⟩ := hc1.wr
  clear hc1 ht1 hap hP
  have k5 := HY.out.c5
  obtain ⟨ad5, c5, e5, -⟩ := own_slice3 (HY.out.wrow dt HT.out.2.2.2)
  rw [← HT.out.2.2.1] at e5
  obtain ⟨n5, hn5⟩ : ∃ n, (q1.wrote t).length = n := ⟨_, rfl⟩
  have hl5 := HQ.out.lenW t
  rw [hn5] at e5 hl5
  have hbv : (c.hw t).getD (.slice none 0 0) = .slice ad5 n5 c5 := e5
  have HV : Hid (V.ownsRow w0.heap.size 3 1 (.slice ad5 n5 c5) n5 ((q1.wrote t).map (Value.int .i64))) := by
    show World.ownsRow _ _ _ _ _ _ _
    have := HY.out.wrow dt HT.out.2.2.2
    rw [← HT.out.2.2.1, e5, hn5] at this
    exact this
  have hlk0 : (Instr.lookup 80 (.map (some c.W)) (.int .i64 t) false).run Tryd.prog V.drew = .ok (.slice ad5 n5 c5) V.drew := by have := (MapIs.drew hm5).look false Tryd.underlying80 (zero_intsQ _) hwf; rw [hbv] at this; exact this
  have hlk1 : ∀ ob : Obj, (Instr.lookup 80 (.map (some c.W)) (.int .i64 t) false).run Tryd.prog (V.drew.alloc ob) = .ok (.slice ad5 n5 c5) (V.drew.alloc ob) := fun ob => by
    have h2 : MapIs (V.drew.alloc ob) c.W c.hw m5 := hm5.turn (Turns.alloc (Turns.drew (Turns.refl (fun _ => False) V)) ob) fun hf => hf
    have := h2.look false Tryd.underlying80 (zero_intsQ _) hwf
    rw [hbv] at this
    exact this
  have hlk2 : ∀ ob : Obj, (Instr.lookup 80 (.map (some c.W)) (.int .i64 t) false).run Tryd.prog (V.alloc ob).drew = .ok (.slice ad5 n5 c5) (V.alloc ob).drew := fun ob => by
    have h2 : MapIs (V.alloc ob).drew c.W c.hw m5 := hm5.turn (Turns.drew (Turns.alloc (Turns.refl (fun _ => False) V) ob)) fun hf => hf
    have := h2.look false Tryd.underlying80 (zero_intsQ _) hwf
    rw [hbv] at this
    exact this
  have HSZ : Hid (w0.heap.size ≤ V.heap.size) := HY.out.old.size
  have HPT : Hid (∀ v2 w2 (ob : Obj), w2.ownsRow w0.heap.size 3 1 v2 (n5 + 1) ((q1.wrote t).map (Value.int .i64) ++ [.int .i64 i]) → (V.drew.alloc ob).grownBy w2 (Value.slice ad5 n5 c5).ownBlock → (∀ k, v2.ownBlock = some k → (Value.slice ad5 n5 c5).ownBlock = some k ∨ (V.drew.alloc ob).heap.size ≤ k) →
      (w2.cell? ⟨R, 5, none⟩ = some (.map (some c.W)) ∧ w2.cell? ⟨P, 0, none⟩ = some (.int .i64 t) ∧ w2.cell? ⟨P, 2, none⟩ = some (.int .i64 i)) ∧ ∃ X, (X.cell? ⟨R, 5, none⟩ = some (.map (some c.W)) ∧ X.cell? ⟨P, 0, none⟩ = some (.int .i64 t) ∧ X.cell? ⟨P, 2, none⟩ = some (.int .i64 i)) ∧ (Instr.mapUpdate 80 (.map (some c.W)) (.int .i64 t) v2).run Tryd.prog w2 = .ok () X ∧ CameTo w0 X R S F (writeQ q1 t i)) := fun v2 w2 ob h1 h2 h3 => by
    have htu : Turns (fun k => (c.wv t).ownBlock = some k) V w2 := by rw [e5]; exact turn_grown h2
    have hpw : ∀ k, (c.wv t).ownBlock = some k → cpart R c (dt + 12) k := fun k hk => (cpart_w R c dt k).2 (by rw [← HT.out.2.2.1]; exact hk)
    have hd7 := HT.out.2.2.2
    have hnR : ¬ (c.wv t).ownBlock = some R := fun e => HY.out.apart 0 (dt + 12) R (by omega) (by omega) (by omega) rfl (hpw R e)
    have hnP : ¬ (c.wv t).ownBlock = some P := fun e => HAP.out (dt + 12) P (by omega) (hpw P e) rfl
    have hnW : ¬ (c.wv t).ownBlock = some c.W := fun e => HY.out.apart 4 (dt + 12) c.W (by omega) (by omega) (by omega) rfl (hpw c.W e)
    obtain ⟨X, hup, hmX, htX⟩ := (hm5.turn htu hnW).store (v := v2) Tryd.underlying80 HT.out.1 HT.out.2.1
    have f0 := (htu.cell (p := ⟨R, 5, none⟩) HY.out.lt hnR).trans HY.out.c5
    have f1 := HBX.out.turn htu hnP
    have hBR : ¬ R = c.W := fun e => HY.out.apart 0 4 R (by omega) (by omega) (by omega) rfl e
    have hBP : ¬ P = c.W := fun e => HAP.out 4 c.W (by omega) rfl e.symm
    have f2 := f1.turn htX hBP
    refine ⟨⟨f0, f1.p0, f1.p2⟩, X, ⟨(htX.cell (p := ⟨R, 5, none⟩) (World.block_lt_of_cell? w2 _ f0) hBR).trans f0, f2.p0, f2.p2⟩, hup, ⟨{ c with hw := setF c.hw (dt : Int) (some v2) }, ?_⟩⟩
    have ht' := HT.out.2.2.1
    rw [ht'] at htu hmX h1 hn5 e5 ⊢
    refine HY.out.pushWrote (w2 := w2) hd7 htu hmX htX (by rw [hn5]; exact h1) fun k hk => ?_
    rcases apart_later h3 k hk with h4 | h4
    · exact .inl (by rw [e5]; exact h4)
    · exact .inr h4
  have HK5 : Hid (V.drew.cell? ⟨R, 5, none⟩ = some (.map (some c.W)) ∧ V.drew.cell? ⟨P, 0, none⟩ = some (.int .i64 t) ∧ V.drew.cell? ⟨P, 2, none⟩ = some (.int .i64 i)) := ⟨k5, p0, p2⟩
  have HK6 : Hid (∀ ob : Obj, (V.drew.alloc ob).cell? ⟨R, 5, none⟩ = some (.map (some c.W)) ∧ (V.drew.alloc ob).cell? ⟨P, 0, none⟩ = some (.int .i64 t) ∧ (V.drew.alloc ob).cell? ⟨P, 2, none⟩ = some (.int .i64 i)) := fun ob =>
    ⟨(World.cell?_alloc_lt V.drew ob ⟨R, 5, none⟩ hRV).trans k5, (World.cell?_alloc_lt V.drew ob ⟨P, 0, none⟩ hPV).trans p0, (World.cell?_alloc_lt V.drew ob ⟨P, 2, none⟩ hPV).trans p2⟩
  clear hm5 e5 hn5 hbv
  go_wp2_with fail
  go_region_held3 (fun w' => w'.cell? ⟨R, 5, none⟩ = some (.map (some c.W)) ∧ w'.cell? ⟨P, 0, none⟩ = some (.int .i64 t) ∧ w'.cell? ⟨P, 2, none⟩ = some (.int .i64 i)) (first | exact gX | exact g0 | exact HK5.out | exact HK6.out _) (first | (refine step_append_apart rfl (.tmp 51) (.tmp 54) 23 rfl w0.heap.size 3 i0 (.int .i64 0) 1 8 Tryd.underlying23 HI.out.1 HI.out.2.1 HI.out.2.2.1 HI.out.2.2.2 rfl (by decide) (.slice ad5 n5 c5) n5 ((q1.wrote t).map (Value.int .i64)) (by simp [Act.eval]) (HV.out.alloc _) ⟨V.heap.size, 0, none⟩ 1 1 [.int .i64 i] (by simp [Act.eval]) rfl (int_newQ V i _) (int_oneQ i) (by unfold maxLen; omega) (by omega) (by have := HSZ.out; simp; omega) ?_; intro v2 w2 hown2 hgr2 hap2; obtain ⟨g0, X, gX, hup, g2⟩ := HPT.out v2 w2 _ hown2 hgr2 hap2; clear hap2 hgr2; obtain ⟨ad6, c6, rfl, -⟩ := own_slice3 hown2; have HK2 := hid_q g2; clear g2 hown2))
  all_goals
    go_wp2_with fail
    go_end0
    exact ⟨rfl, HK2.out⟩
end Go.Proofs.YtccjognnehoodafDoor
