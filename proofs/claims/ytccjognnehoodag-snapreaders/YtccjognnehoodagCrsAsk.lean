/-
  PROVED HERE: what a run of package course (as it lies in memory) answers to those that ask it: whether a deal wrote an item, what it read and wrote, who committed, who did since it began. Old memory stays as it was.
  Conditions: the deal's number is 1 to 6; the lists are short.
-/
import Derived.Test.YtccjognnehoodagCrsMem
import Derived.Test.YtccjognnehoodagCrsIdx
import Derived.Deep.Cut
import Derived.Deep.RegionHeld3
namespace Go.Proofs.Ytccjognnehoodag
open Go.RowKit

theorem zero_intsQ (w : World) : (zeroValue 25).run Try.prog w = .ok (.slice none 0 0) w := by kernel_rfl
theorem zero_seensQ (w : World) : (zeroValue 26).run Try.prog w = .ok (.slice none 0 0) w := by kernel_rfl
theorem zero_intQ (w : World) : (zeroValue 3).run Try.prog w = .ok (.int .i64 0) w := by kernel_rfl
section
variable {w0 w : World} {R : Nat} {S F : Value} {q : Crs} {c : CLay}
theorem CrsAt.wrotes (h : CrsAt w0 w R S F q c) {t : Int} (h1 : 1 ≤ t) (h6 : t ≤ 6) : ∃ ad cap, c.wv t = .slice ad (q.wrote t).length cap ∧ IsInts w (.slice ad (q.wrote t).length cap) (q.wrote t) := by
  obtain ⟨d, rfl⟩ : ∃ d : Nat, t = d := ⟨t.toNat, by omega⟩
  have hr := h.wrow d (by omega)
  obtain ⟨ad, cap, e, -⟩ := own_slice3 hr
  exact ⟨ad, cap, e, by rw [← e]; exact isInts_own hr rfl⟩
theorem CrsAt.reads (h : CrsAt w0 w R S F q c) {t : Int} (h1 : 1 ≤ t) (h6 : t ≤ 6) : ∃ ad cap, c.rv t = .slice ad (q.read t).length cap ∧ IsOps w (.slice ad (q.read t).length cap) (q.read t) := by
  obtain ⟨d, rfl⟩ : ∃ d : Nat, t = d := ⟨t.toNat, by omega⟩
  have hr := h.rrow d (by omega)
  obtain ⟨ad, cap, e, -⟩ := own_slice3 hr
  exact ⟨ad, cap, e, by rw [← e]; exact isOps_row hr rfl⟩
end
set_option maxHeartbeats 4000000 in
theorem wrote_crs {w0 w : World} {R : Nat} {S F : Value} {q : Crs} {c : CLay} (h : CrsAt w0 w R S F q c) {t : Int} (h1 : 1 ≤ t) (h6 : t ≤ 6) (item : Int) (hl : (q.wrote t).length ≤ 1000) :
    Calls Try.prog 51 #[.pointer (some ⟨R, 0, none⟩), .int .i64 t, .int .i64 item] w fun e w' => e = .returned (.bool (inB (q.wrote t) item)) ∧ w' = w := by
  have c5 := h.c5
  obtain ⟨m, hm⟩ := h.wr
  have HM := hid_q hm
  obtain ⟨ad, cap, hv, hI⟩ := h.wrotes h1 h6
  have HV : Hid ((c.hw t).getD (.slice none 0 0) = .slice ad (q.wrote t).length cap) := hv
  have HC := hid_q (contains_nums (q.wrote t) _ item w hI hl)
  have hwf := wf_deal h1 h6
  obtain ⟨n, hn⟩ : ∃ n, (q.wrote t).length = n := ⟨_, rfl⟩
  rw [hn] at HV HC
  clear h hm hv hI h1 h6 hl hn
  go_enter Try.func51, Try.ntmps51
  go_wp2_with (first | (at_lookup; refine wp_look _ rfl (.tmp 10) (.tmp 11) 73 false rfl 25 Try.underlying73 (.slice none 0 0) (zero_intsQ _) c.W m c.hw rfl HM.out t rfl hwf (.slice ad n cap) _ HV.out rfl ?_) | (go_at_call 71; refine HC.out.mono ?_; rintro e w1 ⟨rfl, hw1⟩; rw [hw1]; clear hw1))
  go_ret
  exact ⟨rfl, rfl⟩
set_option maxHeartbeats 4000000 in
theorem read_crs {w0 w : World} {R : Nat} {S F : Value} {q : Crs} {c : CLay} (h : CrsAt w0 w R S F q c) {t : Int} (h1 : 1 ≤ t) (h6 : t ≤ 6) (hl : (q.read t).length ≤ 1000) :
    Calls Try.prog 45 #[.pointer (some ⟨R, 0, none⟩), .int .i64 t] w fun e w' => ∃ v', e = .returned v' ∧ w'.ownsRow w.heap.size 60 3 v' (q.read t).length (flat (q.read t)) ∧ Below w.heap.size w w' := by
  have c4 := h.c4
  obtain ⟨m, hm⟩ := h.rd
  have HM := hid_q hm
  obtain ⟨ad, cap, hv, hI⟩ := h.reads h1 h6
  have HV : Hid ((c.hr t).getD (.slice none 0 0) = .slice ad (q.read t).length cap) := hv
  have HC := hid_q (clone_seen (q.read t) _ w hI hl)
  have hwf := wf_deal h1 h6
  obtain ⟨n, hn⟩ : ∃ n, (q.read t).length = n := ⟨_, rfl⟩
  rw [hn] at HV HC
  have HN := hid_q hn
  clear h hm hv hI h1 h6 hl hn
  go_enter Try.func45, Try.ntmps45
  go_wp2_with (first | (at_lookup; refine wp_look _ rfl (.tmp 8) (.tmp 9) 72 false rfl 26 Try.underlying72 (.slice none 0 0) (zero_seensQ _) c.D m c.hr rfl HM.out t rfl hwf (.slice ad n cap) _ HV.out rfl ?_) | (go_at_call 68; refine HC.out.mono ?_; rintro e w1 ⟨v1, rfl, ho1, hb1⟩))
  go_ret
  exact ⟨v1, rfl, by rw [HN.out]; exact ho1, hb1⟩
set_option maxHeartbeats 4000000 in
theorem written_crs {w0 w : World} {R : Nat} {S F : Value} {q : Crs} {c : CLay} (h : CrsAt w0 w R S F q c) {t : Int} (h1 : 1 ≤ t) (h6 : t ≤ 6) (hl : (q.wrote t).length ≤ 1000) :
    Calls Try.prog 64 #[.pointer (some ⟨R, 0, none⟩), .int .i64 t] w fun e w' => ∃ v', e = .returned v' ∧ w'.ownsRow w.heap.size 3 1 v' (q.wrote t).length ((q.wrote t).map (Value.int .i64)) ∧ Below w.heap.size w w' := by
  have c5 := h.c5
  obtain ⟨m, hm⟩ := h.wr
  have HM := hid_q hm
  obtain ⟨ad, cap, hv, hI⟩ := h.wrotes h1 h6
  have HV : Hid ((c.hw t).getD (.slice none 0 0) = .slice ad (q.wrote t).length cap) := hv
  have HC := hid_q (clone_ints (q.wrote t) _ w hI hl)
  have hwf := wf_deal h1 h6
  obtain ⟨n, hn⟩ : ∃ n, (q.wrote t).length = n := ⟨_, rfl⟩
  rw [hn] at HV HC
  have HN := hid_q hn
  clear h hm hv hI h1 h6 hl hn
  go_enter Try.func64, Try.ntmps64
  go_wp2_with (first | (at_lookup; refine wp_look _ rfl (.tmp 8) (.tmp 9) 73 false rfl 25 Try.underlying73 (.slice none 0 0) (zero_intsQ _) c.W m c.hw rfl HM.out t rfl hwf (.slice ad n cap) _ HV.out rfl ?_) | (go_at_call 55; refine HC.out.mono ?_; rintro e w1 ⟨v1, rfl, ho1, hb1⟩))
  go_ret
  exact ⟨v1, rfl, by rw [HN.out]; exact ho1, hb1⟩
set_option maxHeartbeats 4000000 in
theorem done_crs {w0 w : World} {R : Nat} {S F : Value} {q : Crs} {c : CLay} (h : CrsAt w0 w R S F q c) (hl : q.done.length ≤ 1000) :
    Calls Try.prog 30 #[.pointer (some ⟨R, 0, none⟩)] w fun e w' => ∃ v', e = .returned v' ∧ w'.ownsRow w.heap.size 3 1 v' q.done.length (q.done.map (Value.int .i64)) ∧ Below w.heap.size w w' := by
  have c2 := h.c2
  obtain ⟨ad, cap, e1, -⟩ := own_slice3 h.done
  have hI := isInts_own h.done rfl
  rw [e1] at c2 hI
  have HC := hid_q (clone_ints q.done _ w hI hl)
  obtain ⟨n, hn⟩ : ∃ n, q.done.length = n := ⟨_, rfl⟩
  rw [hn] at c2 HC
  have HN := hid_q hn
  clear h hl e1 hI hn
  go_enter Try.func30, Try.ntmps30
  go_wp2_with (go_at_call 55; refine HC.out.mono ?_; rintro e w1 ⟨v1, rfl, ho1, hb1⟩)
  go_ret
  exact ⟨v1, rfl, by rw [HN.out]; exact ho1, hb1⟩
theorem size_intQ (W : World) : (sizeOf (Try.prog.elem 25)).run Try.prog W = .ok 1 W := by kernel_rfl
theorem elem_intQ : Try.prog.underlying 25 = some (.slice (Try.prog.elem 25)) := by kernel_rfl
/-- A row of numbers from its n-th on. -/
theorem own_drop {w : World} {base e : Nat} {v : Value} {l : List Int} (h : w.ownsRow base e 1 v l.length (l.map (Value.int .i64))) {n : Nat} (hn : n ≤ l.length) :
    ∃ ad cap, (∀ W, (Instr.sliceAt 25 v (some (.int .i64 (n : Int))) none none).run Try.prog W = .ok (.slice ad (l.length - n) cap) W) ∧ IsInts w (.slice ad (l.length - n) cap) (l.drop n) := by
  have hI := isInts_own h rfl
  obtain ⟨_, ⟨hv, hd⟩ | ⟨g, cap, cur, hv, hb, hg, hnc, hm, hsz, htk⟩⟩ := h
  · have h0 : l = [] := List.length_eq_zero_iff.1 hd
    subst h0
    have hn0 : n = 0 := by simpa using hn
    subst hn0
    refine ⟨none, 0, fun W => ?_, isInts_nil w⟩
    rw [hv, run_sliceAt_slice W _ _ _ _ _ elem_intQ, run_slice_l W _ _ _ _ elem_intQ _ _ (by omega) (by simp), size_intQ]
    rfl
  · refine ⟨if cap = n then some ⟨g, 0, none⟩ else some ⟨g, n, none⟩, cap - n, fun W => ?_, ?_⟩
    · rw [hv, run_sliceAt_slice W _ _ _ _ _ elem_intQ, run_slice_l W _ _ _ _ elem_intQ _ _ (by omega) (by omega), size_intQ]
      simp [Result.andThen, sliced, Addr.add_lit]
    · obtain ⟨ad, b, off, cap', e1, ha, hz, hbB, hc⟩ := hI
      rw [hv] at e1
      injection e1 with e2 e3 e4
      refine ⟨_, b, off + n, _, by rw [List.length_drop], fun hp => ?_, fun hno => (by split at hno <;> cases hno), ?_, fun k hk => ?_⟩
      · rw [List.length_drop] at hp
        have h2 := ha (by omega)
        rw [← e2] at h2
        injection h2 with h2
        injection h2 with h2 h3
        rw [if_neg (by omega), ← h2, ← h3]
        simp
      · rcases hbB with h5 | h5
        · exact .inl h5
        · exact .inr (by rw [h5]; simp)
      · rw [List.length_drop] at hk
        rw [Nat.add_assoc, hc (n + k) (by omega)]
        simp [List.getD]
/-- A row of numbers up to its n-th. -/
theorem own_front {w : World} {base e : Nat} {v : Value} {l : List Int} (h : w.ownsRow base e 1 v l.length (l.map (Value.int .i64))) {n : Nat} (hn : n ≤ l.length) :
    ∃ ad cap, (∀ W, (Instr.sliceAt 25 v none (some (.int .i64 (n : Int))) none).run Try.prog W = .ok (.slice ad n cap) W) ∧ IsInts w (.slice ad n cap) (l.take n) := by
  have hI := isInts_own h rfl
  have hlt : (l.take n).length = n := by rw [List.length_take]; omega
  obtain ⟨_, ⟨hv, hd⟩ | ⟨g, cap, cur, hv, hb, hg, hnc, hm, hsz, htk⟩⟩ := h
  · have h0 : l = [] := List.length_eq_zero_iff.1 hd
    subst h0
    have hn0 : n = 0 := by simpa using hn
    subst hn0
    refine ⟨none, 0, fun W => ?_, isInts_nil w⟩
    rw [hv, run_sliceAt_slice W _ _ _ _ _ elem_intQ, run_slice_h W _ _ _ _ elem_intQ _ _ (by omega) (by simp), size_intQ]
    rfl
  · refine ⟨some ⟨g, 0, none⟩, cap, fun W => ?_, ?_⟩
    · rw [hv, run_sliceAt_slice W _ _ _ _ _ elem_intQ, run_slice_h W _ _ _ _ elem_intQ _ _ (by omega) (by omega), size_intQ]
      simp [Result.andThen, sliced, Addr.add_lit]
    · obtain ⟨ad, b, off, cap', e1, ha, hz, hbB, hc⟩ := hI
      rw [hv] at e1
      injection e1 with e2 e3 e4
      refine ⟨_, b, off, _, by rw [hlt], fun hp => ?_, fun hno => (by cases hno), ?_, fun k hk => ?_⟩
      · rw [hlt] at hp
        have h2 := ha (by omega)
        rw [← e2] at h2
        exact h2
      · rcases hbB with h5 | h5
        · exact .inl h5
        · exact .inr (by rw [h5]; simp)
      · rw [hlt] at hk
        rw [hc k (by omega)]
        simp [List.getD, hk]
set_option maxHeartbeats 4000000 in
set_option maxRecDepth 100000 in
theorem since_crs {w0 w : World} {R : Nat} {S F : Value} {q : Crs} {c : CLay} (h : CrsAt w0 w R S F q c) {t : Int} (h1 : 1 ≤ t) (h6 : t ≤ 6) {n : Nat} (hn : q.began t = some n) (hnl : n ≤ q.done.length) (hl : q.done.length ≤ 1000) :
    Calls Try.prog 47 #[.pointer (some ⟨R, 0, none⟩), .int .i64 t] w fun e w' => ∃ v', e = .returned v' ∧ IsInts w' v' (q.done.drop n) ∧ Below w.heap.size w w' := by
  have c2 := h.c2
  have c3 := h.c3
  obtain ⟨m, hm⟩ := h.beg
  have hwf := wf_deal h1 h6
  obtain ⟨ad1, cap1, e1, -⟩ := own_slice3 h.done
  have hrow := h.done
  rw [e1] at hrow c2
  obtain ⟨ad2, cap2, hsl, hI⟩ := own_drop hrow hnl
  have hg : (begM q.began t).getD (.int .i64 0) = .int .i64 (n : Int) := by unfold begM; rw [hn]; rfl
  have hlk0 : (Instr.lookup 71 (.map (some c.B)) (.int .i64 t) false).run Try.prog w.drew = .ok (.int .i64 (n : Int)) w.drew := by
    have := (MapIs.drew hm).look false Try.underlying71 (zero_intQ _) hwf
    rw [hg] at this
    exact this
  obtain ⟨M, hM⟩ : ∃ M, q.done.length - n = M := ⟨_, rfl⟩
  obtain ⟨N, hN⟩ : ∃ N, q.done.length = N := ⟨_, rfl⟩
  rw [hM] at hsl hI
  rw [hN] at hsl c2
  have HC : Hid (∀ W, Below w.heap.size w W → Calls Try.prog 55 #[.slice ad2 M cap2] W fun e w' => ∃ v', e = .returned v' ∧ w'.ownsRow W.heap.size 3 1 v' (q.done.drop n).length ((q.done.drop n).map (Value.int .i64)) ∧ Below W.heap.size W w') := fun W hW =>
    clone_ints (q.done.drop n) _ W (hI.below hW (Nat.le_refl _)) (by rw [List.length_drop]; omega)
  have HKC : Hid (∀ W, Below w.heap.size w W → W.cell? ⟨R, 2, none⟩ = some (.slice ad1 N cap1) ∧ W.cell? ⟨R, 3, none⟩ = some (.map (some c.B))) := fun W hW => ⟨(hW.cell (p := ⟨R, 2, none⟩) h.lt).trans c2, (hW.cell (p := ⟨R, 3, none⟩) h.lt).trans c3⟩
  clear h hm h1 h6 hn hnl hl e1 hrow hI hg hM hN
  go_enter Try.func47, Try.ntmps47
  go_upto_region 1 with (fail)
  go_region_held3 (fun w' => w'.cell? ⟨R, 2, none⟩ = some (.slice ad1 N cap1) ∧ w'.cell? ⟨R, 3, none⟩ = some (.map (some c.B))) (first | exact ⟨ke0, ke1⟩ | exact ⟨c2, c3⟩) (first | (go_at_call 55; refine (HC.out _ (Below.refl _ w).drew).mono ?_; rintro e w1 ⟨v1, rfl, ho1, hb0⟩; have hb1 : Below w.heap.size w w1 := (Below.refl _ w).drew.trans hb0; clear hb0; obtain ⟨ke0, ke1⟩ := HKC.out w1 hb1))
  all_goals
    go_wp2_with fail
    go_ret
    exact ⟨_, rfl, isInts_own ho1 rfl, hb1⟩
end Go.Proofs.Ytccjognnehoodag
