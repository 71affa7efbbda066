/-
  PROVED HERE: laneref2.Stamp answers what chapter 10, as a function on lists, tells, of any ops that are right. Old memory stays as it was.
  Conditions: there are at most 40 ops, each of which is one, none behind its deal's end.
-/
import Derived.Test.YtjaeaanpbdmfgaeDoorStampMem
import Derived.Deep.Cut
namespace Go.Proofs.YtjaeaanpbdmfgaeDoor
open Go.RowKit

theorem hid_of3 {p : Prop} (h : p) : Hid p := h
theorem infoOpT : (Tryd.prog.info? 82).map (fun i => (i.zero, i.size, i.bytes)) = some (some (.agg #[.int .i64 0, .int .i64 0, .int .i64 0]), 3, 24) := by kernel_rfl
theorem stamp_snoc (leave : Bool) {l : List Op3} {k : Nat} (hk : k < l.length) : stampR leave (l.take (k + 1)) = stepS leave (stampR leave (l.take k)) (opAt l k) := by
  unfold stampR
  rw [List.take_succ_eq_append_getElem hk, List.foldl_append]
  have : l[k] = opAt l k := by simp [opAt, List.getD, List.getElem?_eq_getElem hk]
  rw [this]
  rfl
theorem setF_self {α : Type} (f : Int → α) (t : Int) : setF f t (f t) = f := by
  funext j
  unfold setF
  split
  · rename_i e; rw [e]
  · rfl
theorem isOp_items {o : Op3} (h : isOpB o = true) : 0 ≤ o.2.2 ∧ o.2.2 ≤ 6 := by
  have h0 := isOp_kinds h
  simp only [isOpB, endsB, Bool.and_eq_true] at h
  have h5 := h.2
  rcases h0 with e | e | ⟨_, e⟩
  · rw [e] at h5; simp at h5; omega
  · rw [e] at h5; simp at h5; omega
  · omega
theorem stm_start (w : World) (T1 T2 : TypeId) : StmAt (((w.alloc (.cells #[.int .i64 0, .int .i64 0, .int .i64 0, .int .i64 0, .int .i64 0, .int .i64 0, .int .i64 0] T1)).alloc (.cells #[.int .i64 0, .int .i64 0, .int .i64 0, .int .i64 0, .int .i64 0, .int .i64 0, .int .i64 0] T1)).alloc (.cells #[.bool false, .bool false, .bool false, .bool false, .bool false, .bool false, .bool false] T2)) w.heap.size stm0 (.slice none 0 0) (.slice none 0 0) := by
  have seven : ∀ k : Nat, k < 7 → k = 0 ∨ k = 1 ∨ k = 2 ∨ k = 3 ∨ k = 4 ∨ k = 5 ∨ k = 6 := fun k hk => by omega
  obtain ⟨A, hA⟩ : ∃ A, A = w.alloc (.cells #[.int .i64 0, .int .i64 0, .int .i64 0, .int .i64 0, .int .i64 0, .int .i64 0, .int .i64 0] T1) := ⟨_, rfl⟩
  obtain ⟨C, hC⟩ : ∃ C, C = A.alloc (.cells #[.int .i64 0, .int .i64 0, .int .i64 0, .int .i64 0, .int .i64 0, .int .i64 0, .int .i64 0] T1) := ⟨_, rfl⟩
  obtain ⟨D, hD⟩ : ∃ D, D = C.alloc (.cells #[.bool false, .bool false, .bool false, .bool false, .bool false, .bool false, .bool false] T2) := ⟨_, rfl⟩
  rw [← hA, ← hC, ← hD]
  have sA : A.heap.size = w.heap.size + 1 := by rw [hA]; simp
  have sC : C.heap.size = w.heap.size + 1 + 1 := by rw [hC]; simp [sA]
  have a1 : A.heap[w.heap.size]? = some (.cells #[.int .i64 0, .int .i64 0, .int .i64 0, .int .i64 0, .int .i64 0, .int .i64 0, .int .i64 0] T1) := by rw [hA]; exact heap_alloc_new w _
  have c1 : C.heap[w.heap.size + 1]? = some (.cells #[.int .i64 0, .int .i64 0, .int .i64 0, .int .i64 0, .int .i64 0, .int .i64 0, .int .i64 0] T1) := by rw [hC, ← sA]; exact heap_alloc_new A _
  have d1 : D.heap[w.heap.size + 1 + 1]? = some (.cells #[.bool false, .bool false, .bool false, .bool false, .bool false, .bool false, .bool false] T2) := by rw [hD, ← sC]; exact heap_alloc_new C _
  have bC : Below A.heap.size A C := by rw [hC]; exact (Below.refl _ A).alloc (Nat.le_refl _) _
  have bD : Below C.heap.size C D := by rw [hD]; exact (Below.refl _ C).alloc (Nat.le_refl _) _
  have d2 : D.heap[w.heap.size + 1]? = some (.cells #[.int .i64 0, .int .i64 0, .int .i64 0, .int .i64 0, .int .i64 0, .int .i64 0, .int .i64 0] T1) := (bD.block _ (by omega)).trans c1
  have d3 : D.heap[w.heap.size]? = some (.cells #[.int .i64 0, .int .i64 0, .int .i64 0, .int .i64 0, .int .i64 0, .int .i64 0, .int .i64 0] T1) := (bD.block _ (by omega)).trans ((bC.block _ (by omega)).trans a1)
  refine ⟨fun k hk => ⟨?_, by simp [World.frozen?, d3]⟩, fun k hk => ⟨?_, by simp [World.frozen?, d2]⟩, fun k hk => ⟨?_, by simp [World.frozen?, d1]⟩, World.ownsRow_nil _ _ _ _, World.ownsRow_nil _ _ _ _, fun g h _ => by simp [Value.ownBlock] at h⟩
  · rw [cell_of_row _ _ _ _ _ _ d3]
    rcases seven k hk with rfl | rfl | rfl | rfl | rfl | rfl | rfl <;> rfl
  · rw [cell_of_row _ _ _ _ _ _ d2]
    rcases seven k hk with rfl | rfl | rfl | rfl | rfl | rfl | rfl <;> rfl
  · rw [cell_of_row _ _ _ _ _ _ d1]
    rcases seven k hk with rfl | rfl | rfl | rfl | rfl | rfl | rfl <;> rfl
set_option maxHeartbeats 32000000 in
set_option maxRecDepth 100000 in
theorem refStamp_any (l : List Op3) (v : Value) (leave : Bool) (w : World) (hI : IsOps w v l) (hc : (chk l).2 = 0) :
    Calls Tryd.prog 24 #[v, .bool leave] w fun e w' => ∃ v1 v2, e = .returned (.tuple #[v1, v2]) ∧ IsOps w' v1 (stampR leave l).told ∧ IsInts w' v2 (stampR leave l).vict ∧ Below w.heap.size w w' := by
  obtain ⟨ad, b, off, cap, rfl, ha, -, hbB, hops⟩ := hI
  have HE : Hid (∀ W, Below w.heap.size w W → ∀ k, k < l.length → ad = some ⟨b, off, none⟩ ∧ b < w.heap.size ∧ W.cell? ⟨b, off + k * 3, none⟩ = some (.int .i64 (opAt l k).1) ∧ W.cell? ⟨b, off + k * 3 + 1, none⟩ = some (.int .i64 (opAt l k).2.1) ∧ W.cell? ⟨b, off + k * 3 + 2, none⟩ = some (.int .i64 (opAt l k).2.2)) := fun W hW k hk => by
    refine ⟨ha (by omega), ?_, (hops.below hW hbB) k hk⟩
    rcases hbB with h | h
    · exact h
    · subst h; simp at hk
  obtain ⟨hl40, hop, hcalm⟩ := (chk_iff l).1 hc
  have HOP : Hid (∀ o ∈ l, isOpB o = true) := hop
  have HSK : Hid (∀ k, k ≤ l.length → (stampR leave (l.take k)).told.length ≤ k ∧ (stampR leave (l.take k)).vict.length ≤ k) := fun k hk => by
    have := (stamp_ok leave l hop hcalm k hk).long
    rw [List.length_take] at this
    omega
  obtain ⟨i0, hi, hz0, hs0, hy0⟩ := info_parts infoOpT
  have HI : Hid (Tryd.prog.info? 82 = some i0 ∧ i0.zero = some (.agg #[.int .i64 0, .int .i64 0, .int .i64 0]) ∧ i0.size = 3 ∧ i0.bytes = 24) := ⟨hi, hz0, hs0, hy0⟩
  obtain ⟨j0, hj, hjz0, hjs0, hjy0⟩ := info_parts infoInt
  have HJ : Hid (Tryd.prog.info? 3 = some j0 ∧ j0.zero = some (.int .i64 0) ∧ j0.size = 1 ∧ j0.bytes = 8) := ⟨hj, hjz0, hjs0, hjy0⟩
  have HSTART := hid_of3 (stm_start w 93 94)
  clear ha hbB hops hop hcalm hc hi hz0 hs0 hy0 hj hjz0 hjs0 hjy0
  go_enter Tryd.func24, Tryd.ntmps24
  go_wp2_with fail
  obtain ⟨W0, hW0⟩ : ∃ W0, W0 = ((w.alloc (.cells #[.int .i64 0, .int .i64 0, .int .i64 0, .int .i64 0, .int .i64 0, .int .i64 0, .int .i64 0] 93)).alloc (.cells #[.int .i64 0, .int .i64 0, .int .i64 0, .int .i64 0, .int .i64 0, .int .i64 0, .int .i64 0] 93)).alloc (.cells #[.bool false, .bool false, .bool false, .bool false, .bool false, .bool false, .bool false] 94) := ⟨_, rfl⟩
  rw [← hW0] at HSTART ⊢
  have hb0 : Below w.heap.size w W0 := by rw [hW0]; exact (((Below.refl _ w).alloc (Nat.le_refl _) _).alloc (by simp) _).alloc (by simp; omega) _
  have HB0 := hid_of3 hb0
  obtain ⟨B, hB⟩ : ∃ B, B = w.heap.size := ⟨_, rfl⟩
  rw [← hB] at HSTART ⊢
  have HBE : Hid (B = w.heap.size) := hB
  clear hW0 hb0 hB
  go_loopw [9, 10, 11, 12, 13, 14, 15] (fun v9 v10 v11 _ _ _ _ wr => ∃ k : Nat, k ≤ l.length ∧ v11 = .int .i64 k ∧ StmAt wr B (stampR leave (l.take k)) v9 v10 ∧ Below w.heap.size w wr) (fun _ _ v11 _ _ _ _ _ => l.length - (intOf v11).toNat)
  case atStart => exact ⟨0, Nat.zero_le _, rfl, HSTART.out, HB0.out⟩
  case round =>
    obtain ⟨k, hk, rfl, hst, hbel⟩ := hrel
    have hsk := HSK.out k hk
    obtain ⟨s, hs⟩ : ∃ s, stampR leave (l.take k) = s := ⟨_, rfl⟩
    rw [hs] at hst hsk
    have HLT : Hid (s.told.length ≤ 40 ∧ s.vict.length ≤ 40) := ⟨by omega, by omega⟩
    have HSS := hid_of3 hs
    by_cases hlt : k < l.length
    · have hlt' : (k : Int) < (l.length : Int) := by omega
      obtain ⟨rfl, hbw, e0, e1, e2⟩ := HE.out wr hbel k hlt
      obtain ⟨⟨t, a, i⟩, ho⟩ : ∃ o : Op3, opAt l k = o := ⟨_, rfl⟩
      have hiso : isOpB (t, a, i) = true := by rw [← ho]; exact HOP.out _ (opAt_mem hlt)
      obtain ⟨h1, h6⟩ := isOp_range hiso
      obtain ⟨x0, x6⟩ := isOp_items hiso
      have hwh := isOp_kinds hiso
      rw [ho] at e0 e1 e2
      simp only at e0 e1 e2 h1 h6 x0 x6 hwh
      obtain ⟨d, rfl⟩ : ∃ d : Nat, t = d := ⟨t.toNat, by omega⟩
      obtain ⟨x, rfl⟩ : ∃ x : Nat, i = x := ⟨i.toNat, by omega⟩
      have HNX0 : Hid (stampR leave (l.take (k + 1)) = stepS leave s ((d : Int), a, (x : Int))) := by show _ = _; rw [stamp_snoc leave hlt, hs, ho]
      have hd1 : 1 ≤ d := by omega
      have hd6 : d ≤ 6 := by omega
      have hd0 : (0 : Int) ≤ (d : Int) := by omega
      have hdn : ¬ (d : Int) < 0 := by omega
      have hd7 : (d : Int) < 7 := by omega
      have hx6 : x ≤ 6 := by omega
      have hx0 : (0 : Int) ≤ (x : Int) := by omega
      have hxn : ¬ (x : Int) < 0 := by omega
      have hx7 : (x : Int) < 7 := by omega
      have hBl := hst.lt
      clear hs ho hiso h1 h6 x0 x6 hsk
      go_upto_region 9 with (fail)
      obtain ⟨W1, hW1⟩ : ∃ W1, W1 = wr.alloc (.cells #[.int .i64 (d : Int), .int .i64 a, .int .i64 (x : Int)] 82) := ⟨_, rfl⟩
      rw [← hW1]
      have hbW : Below wr.heap.size wr W1 := by rw [hW1]; exact (Below.refl _ wr).alloc (Nat.le_refl _) _
      have p0 : W1.cell? ⟨wr.heap.size, 0, none⟩ = some (.int .i64 (d : Int)) := by rw [hW1]; simp
      have p1 : W1.cell? ⟨wr.heap.size, 1, none⟩ = some (.int .i64 a) := by rw [hW1]; simp
      have p2 : W1.cell? ⟨wr.heap.size, 2, none⟩ = some (.int .i64 (x : Int)) := by rw [hW1]; simp
      have hPW : wr.heap.size < W1.heap.size := World.block_lt_of_cell? W1 _ p0
      have HST : Hid (StmAt W1 B s u9 u10) := hst.below hbW
      have HBW : Hid (Below w.heap.size w W1) := hbel.trans (hbW.mono hbel.size)
      obtain ⟨P, hP⟩ : ∃ P, P = wr.heap.size := ⟨_, rfl⟩
      have HPB : Hid (B + 1 + 1 < P) := by show _ < _; omega
      have HAV : Hid (¬ Value.ownBlock u10 = some P) := fun e => by have := (hst.vict.lt P e).2; omega
      rw [← hP] at p0 p1 p2 hPW ⊢
      have co := (HST.out.out d (by omega)).1
      have cr := (HST.out.rd x (by omega)).1
      have cw := (HST.out.wr x (by omega)).1
      clear hW1 hbW hP hst hbel e0 e1 e2
      cases hout : s.out (d : Int) with
      | true =>
        have HNX : Hid (stampR leave (l.take (k + 1)) = s) := by show _ = _; rw [HNX0.out]; unfold stepS; rw [if_pos hout]
        rw [hout] at co
        clear hout
        go_wp2_with fail
        go_roundw
        case rel => exact ⟨k + 1, by omega, by go_num, by rw [HNX.out]; exact HST.out, HBW.out⟩
        case measure => simp [intOf]; omega
      | false =>
        rw [hout] at co
        obtain ⟨rx, hrx⟩ : ∃ r, s.rd (x : Int) = r := ⟨_, rfl⟩
        obtain ⟨wx, hwx⟩ : ∃ r, s.wr (x : Int) = r := ⟨_, rfl⟩
        rw [hrx] at cr
        rw [hwx] at cw
        rcases hwh with rfl | rfl | ⟨hwh, hxz⟩
        · by_cases hb : (d : Int) < wx
          · have HNX : Hid (stampR leave (l.take (k + 1)) = goneS s (d : Int)) := by
              show _ = _
              rw [HNX0.out]
              unfold stepS badS lateS
              simp only [hwx]
              rw [if_neg (by rw [hout]; decide), if_pos (by simpa using hb)]
            have hbd : decide ((d : Int) < wx) = true := decide_eq_true hb
            clear hout hrx hwx
            go_wp2_with fail
            go_quiet (fail)
            obtain ⟨W2, hQ⟩ : ∃ Z : World, Z = W1.drewN nq := ⟨_, rfl⟩
            rw [← hQ]
            replace p0 : W2.cell? ⟨P, 0, none⟩ = some (.int .i64 (d : Int)) := by rw [hQ]; exact p0
            replace p1 : W2.cell? ⟨P, 1, none⟩ = some (.int .i64 1) := by rw [hQ]; exact p1
            replace p2 : W2.cell? ⟨P, 2, none⟩ = some (.int .i64 (x : Int)) := by rw [hQ]; exact p2
            replace co : W2.cell? ⟨B + 1 + 1, d, none⟩ = some (.bool false) := by rw [hQ]; exact co
            replace cr : W2.cell? ⟨B, x, none⟩ = some (.int .i64 rx) := by rw [hQ]; exact cr
            replace cw : W2.cell? ⟨B + 1, x, none⟩ = some (.int .i64 wx) := by rw [hQ]; exact cw
            replace hPW : P < W2.heap.size := by rw [hQ]; exact hPW
            replace HST : Hid (StmAt W2 B s u9 u10) := by show StmAt _ _ _ _ _; rw [hQ]; exact HST.out.below (below_drewN (Below.refl _ _) _)
            replace HBW : Hid (Below w.heap.size w W2) := by show Below _ _ _; rw [hQ]; exact below_drewN HBW.out _
            clear hQ
            go_wp2_with fail
            go_quiet (fail)
            obtain ⟨W3, hQ⟩ : ∃ Z : World, Z = W2.drewN nq := ⟨_, rfl⟩
            rw [← hQ]
            replace p0 : W3.cell? ⟨P, 0, none⟩ = some (.int .i64 (d : Int)) := by rw [hQ]; exact p0
            replace p1 : W3.cell? ⟨P, 1, none⟩ = some (.int .i64 1) := by rw [hQ]; exact p1
            replace p2 : W3.cell? ⟨P, 2, none⟩ = some (.int .i64 (x : Int)) := by rw [hQ]; exact p2
            replace co : W3.cell? ⟨B + 1 + 1, d, none⟩ = some (.bool false) := by rw [hQ]; exact co
            replace cr : W3.cell? ⟨B, x, none⟩ = some (.int .i64 rx) := by rw [hQ]; exact cr
            replace cw : W3.cell? ⟨B + 1, x, none⟩ = some (.int .i64 wx) := by rw [hQ]; exact cw
            replace hPW : P < W3.heap.size := by rw [hQ]; exact hPW
            replace HST : Hid (StmAt W3 B s u9 u10) := by show StmAt _ _ _ _ _; rw [hQ]; exact HST.out.below (below_drewN (Below.refl _ _) _)
            replace HBW : Hid (Below w.heap.size w W3) := by show Below _ _ _; rw [hQ]; exact below_drewN HBW.out _
            clear hQ
            have zo := (HST.out.out d (by omega)).2
            go_upto_region 24 with (fail)
            have hso := HST.out.setOut d true
            obtain ⟨X, hX⟩ : ∃ X, X = W3.setCell ⟨B + 1 + 1, d, none⟩ (.bool true) := ⟨_, rfl⟩
            rw [← hX] at hso ⊢
            have htx : Turns (fun j => j = B + 1 + 1) W3 X := by rw [hX]; exact turn_cell W3 ⟨B + 1 + 1, d, none⟩ (.bool true)
            have hPB : P ≠ B + 1 + 1 := by have := HPB.out; omega
            have y0 := (htx.cell (p := ⟨P, 0, none⟩) hPW hPB).trans p0
            have HBX : Hid (Below w.heap.size w X) := HBW.out.trans (htx.below HBW.out.size fun j hj e => by have := HBE.out; omega)
            obtain ⟨s2, hs2⟩ : ∃ s2 : Stm, s2 = { s with out := setF s.out (d : Int) true } := ⟨_, rfl⟩
            rw [← hs2] at hso
            have HSO := hid_of3 hso
            have HS2 := hid_of3 hs2
            obtain ⟨ad6, c6, hv6, -⟩ := own_slice3 hso.vict
            obtain ⟨n6, hn6⟩ : ∃ n, s2.vict.length = n := ⟨_, rfl⟩
            have HN6 := hid_of3 hn6
            have hn46 : n6 ≤ 40 := by rw [← hn6, hs2]; exact HLT.out.2
            rw [hn6] at hv6
            subst hv6
            have HV6 : Hid (X.ownsRow (B + 3) 3 1 (.slice ad6 n6 c6) n6 (s2.vict.map (Value.int .i64))) := by show World.ownsRow _ _ _ _ _ _ _; have := HSO.out.vict; rw [HN6.out] at this; exact this
            have hB2 : B + 3 ≤ X.heap.size := HSO.out.lt
            have hPX : P < X.heap.size := World.block_lt_of_cell? X _ y0
            clear hX hso hs2 hn6 htx p0 p1 p2 zo
            go_upto_region 25 with (at_builtin; refine wpList_append_apart _ rfl (.tmp 100) (.tmp 103) 23 rfl (B + 3) 3 j0 (.int .i64 0) 1 8 Tryd.underlying23 HJ.out.1 HJ.out.2.1 HJ.out.2.2.1 HJ.out.2.2.2 rfl (by decide) (.slice ad6 n6 c6) n6 (s2.vict.map (Value.int .i64)) rfl (HV6.out.alloc _) ⟨X.heap.size, 0, none⟩ 1 1 [.int .i64 (d : Int)] rfl rfl (cell_one_new _ _ _) (by simp [Value.oneCell']) (by unfold maxLen; omega) (by omega) (by simp; omega) ?_; intro v3 w3 hown3 hgr3 hap3)
            have hst3 := HSO.out.more (x := (d : Int)) (by rw [HN6.out]; exact hown3) hgr3 hap3
            have hb3 : Below w.heap.size w w3 := (HBX.out.alloc HBX.out.size _).grown hgr3 (by simp; have := HBX.out.size; omega) (fun g hg => by have := (HV6.out.lt g hg).1; have := HBE.out; omega)
            have y3 : w3.cell? ⟨P, 0, none⟩ = some (.int .i64 (d : Int)) := by
              have htu : Turns (fun j => (Value.slice ad6 n6 c6).ownBlock = some j) X w3 := ((Turns.refl _ X).alloc _).grown hgr3 fun _ hk => .inl hk
              exact (htu.cell (p := ⟨P, 0, none⟩) hPX (fun e => HAV.out (by simpa using e))).trans y0
            obtain ⟨s3, hs3⟩ : ∃ s3 : Stm, s3 = { s2 with vict := s2.vict ++ [(d : Int)] } := ⟨_, rfl⟩
            rw [← hs3] at hst3
            have HS3 := hid_of3 hs3
            have HST3 := hid_of3 hst3
            have HB3 := hid_of3 hb3
            obtain ⟨ad5, c5, hv5, -⟩ := own_slice3 hst3.told
            obtain ⟨n5, hn5⟩ : ∃ n, s3.told.length = n := ⟨_, rfl⟩
            have HN5 := hid_of3 hn5
            have hn40 : n5 ≤ 40 := by rw [← hn5, hs3, HS2.out]; exact HLT.out.1
            rw [hn5] at hv5
            subst hv5
            have HV : Hid (w3.ownsRow (B + 3) 82 3 (.slice ad5 n5 c5) n5 (flat s3.told)) := by show World.ownsRow _ _ _ _ _ _ _; have := HST3.out.told; rw [HN5.out] at this; exact this
            have hB3 : B + 3 ≤ w3.heap.size := HST3.out.lt
            have HGN : Hid ({ s3 with told := s3.told ++ [((d : Int), 4, 0)] } = goneS s (d : Int)) := by show _ = _; rw [HS3.out, HS2.out]; rfl
            clear hn5 hs3 hst3 hb3 hgr3 hap3 hown3 y0
            go_wp2_with (at_builtin; refine wpList_append_apart _ rfl (.tmp 105) (.tmp 109) 50 rfl (B + 3) 82 i0 (.agg #[.int .i64 0, .int .i64 0, .int .i64 0]) 3 24 Tryd.underlying50 HI.out.1 HI.out.2.1 HI.out.2.2.1 HI.out.2.2.2 rfl (by decide) (.slice ad5 n5 c5) n5 (flat s3.told) rfl (HV.out.alloc _) ⟨w3.heap.size, 0, none⟩ 1 1 (flat [((d : Int), 4, 0)]) rfl rfl (one_at w3 _ _ _) (flat_one _) (by unfold maxLen; omega) (by omega) (by simp; omega) ?_; intro v4 w4 hown4 hgr4 hap4)
            have hst4 := HST3.out.tell (x := ((d : Int), 4, 0)) (by rw [HN5.out]; exact hown4) hgr4 hap4
            rw [HGN.out] at hst4
            have hb4 : Below w.heap.size w w4 := (HB3.out.alloc HB3.out.size _).grown hgr4 (by simp; have := HB3.out.size; omega) (fun g hg => by have := (HV.out.lt g hg).1; have := HBE.out; omega)
            go_roundw
            case rel => exact ⟨k + 1, by omega, by go_num, by rw [HNX.out]; exact hst4, hb4⟩
            case measure => simp [intOf]; omega
          · have hbd : decide ((d : Int) < wx) = false := decide_eq_false hb
            have HNY0 : Hid (stampR leave (l.take (k + 1)) = { s with rd := setF s.rd (x : Int) (maxI rx (d : Int)), told := s.told ++ [((d : Int), 1, (x : Int))] }) := by
              show _ = _
              rw [HNX0.out]
              unfold stepS badS lateS
              simp only [hwx, hrx]
              rw [if_neg (by rw [hout]; decide), if_neg (by simpa using hb)]
              rfl
            by_cases hu : rx < (d : Int)
            · have hud : decide (rx < (d : Int)) = true := decide_eq_true hu
              have HNY : Hid (stampR leave (l.take (k + 1)) = { s with rd := setF s.rd (x : Int) (d : Int), told := s.told ++ [((d : Int), 1, (x : Int))] }) := by
                show _ = _
                rw [HNY0.out]
                unfold maxI
                rw [if_pos hu]
              clear hout hrx hwx HNY0
              go_wp2_with fail
              go_quiet (fail)
              obtain ⟨W2, hQ⟩ : ∃ Z : World, Z = W1.drewN nq := ⟨_, rfl⟩
              rw [← hQ]
              replace p0 : W2.cell? ⟨P, 0, none⟩ = some (.int .i64 (d : Int)) := by rw [hQ]; exact p0
              replace p1 : W2.cell? ⟨P, 1, none⟩ = some (.int .i64 1) := by rw [hQ]; exact p1
              replace p2 : W2.cell? ⟨P, 2, none⟩ = some (.int .i64 (x : Int)) := by rw [hQ]; exact p2
              replace co : W2.cell? ⟨B + 1 + 1, d, none⟩ = some (.bool false) := by rw [hQ]; exact co
              replace cr : W2.cell? ⟨B, x, none⟩ = some (.int .i64 rx) := by rw [hQ]; exact cr
              replace cw : W2.cell? ⟨B + 1, x, none⟩ = some (.int .i64 wx) := by rw [hQ]; exact cw
              replace hPW : P < W2.heap.size := by rw [hQ]; exact hPW
              replace HST : Hid (StmAt W2 B s u9 u10) := by show StmAt _ _ _ _ _; rw [hQ]; exact HST.out.below (below_drewN (Below.refl _ _) _)
              replace HBW : Hid (Below w.heap.size w W2) := by show Below _ _ _; rw [hQ]; exact below_drewN HBW.out _
              clear hQ
              go_wp2_with fail
              go_quiet (fail)
              obtain ⟨W3, hQ⟩ : ∃ Z : World, Z = W2.drewN nq := ⟨_, rfl⟩
              rw [← hQ]
              replace p0 : W3.cell? ⟨P, 0, none⟩ = some (.int .i64 (d : Int)) := by rw [hQ]; exact p0
              replace p1 : W3.cell? ⟨P, 1, none⟩ = some (.int .i64 1) := by rw [hQ]; exact p1
              replace p2 : W3.cell? ⟨P, 2, none⟩ = some (.int .i64 (x : Int)) := by rw [hQ]; exact p2
              replace co : W3.cell? ⟨B + 1 + 1, d, none⟩ = some (.bool false) := by rw [hQ]; exact co
              replace cr : W3.cell? ⟨B, x, none⟩ = some (.int .i64 rx) := by rw [hQ]; exact cr
              replace cw : W3.cell? ⟨B + 1, x, none⟩ = some (.int .i64 wx) := by rw [hQ]; exact cw
              replace hPW : P < W3.heap.size := by rw [hQ]; exact hPW
              replace HST : Hid (StmAt W3 B s u9 u10) := by show StmAt _ _ _ _ _; rw [hQ]; exact HST.out.below (below_drewN (Below.refl _ _) _)
              replace HBW : Hid (Below w.heap.size w W3) := by show Below _ _ _; rw [hQ]; exact below_drewN HBW.out _
              clear hQ
              have zz := (HST.out.rd x (by omega)).2
              go_upto_region 16 with (fail)
              have hso := HST.out.setRd x (d : Int)
              obtain ⟨X, hX⟩ : ∃ X, X = W3.setCell ⟨B, x, none⟩ (.int .i64 (d : Int)) := ⟨_, rfl⟩
              rw [← hX] at hso ⊢
              have htx : Turns (fun j => j = B) W3 X := by rw [hX]; exact turn_cell W3 ⟨B, x, none⟩ (.int .i64 (d : Int))
              have hPB : P ≠ B := by have := HPB.out; omega
              have y0 := (htx.cell (p := ⟨P, 0, none⟩) hPW hPB).trans p0
              have y1 := (htx.cell (p := ⟨P, 1, none⟩) hPW hPB).trans p1
              have y2 := (htx.cell (p := ⟨P, 2, none⟩) hPW hPB).trans p2
              have HBX : Hid (Below w.heap.size w X) := HBW.out.trans (htx.below HBW.out.size fun j hj e => by have := HBE.out; omega)
              obtain ⟨s2, hs2⟩ : ∃ s2 : Stm, s2 = { s with rd := setF s.rd (x : Int) (d : Int) } := ⟨_, rfl⟩
              rw [← hs2] at hso
              have HS2 := hid_of3 hs2
              have HSO := hid_of3 hso
              have HLT2 : Hid (s2.told.length ≤ 40) := by show _ ≤ _; rw [hs2]; exact HLT.out.1
              have HNX : Hid (stampR leave (l.take (k + 1)) = { s2 with told := s2.told ++ [((d : Int), 1, (x : Int))] }) := by show _ = _; rw [HNY.out, HS2.out]
              clear hX hso hs2 htx p0 p1 p2 co cr cw zz

              obtain ⟨ad5, c5, hv5, -⟩ := own_slice3 HSO.out.told
              have hn40 : s2.told.length ≤ 40 := HLT2.out
              obtain ⟨n5, hn5⟩ : ∃ n, s2.told.length = n := ⟨_, rfl⟩
              have HN5 := hid_of3 hn5
              rw [hn5] at hn40 hv5
              subst hv5
              have HV : Hid (X.ownsRow (B + 3) 82 3 (.slice ad5 n5 c5) n5 (flat s2.told)) := by show World.ownsRow _ _ _ _ _ _ _; have := HSO.out.told; rw [HN5.out] at this; exact this
              have hB1 : B + 3 ≤ X.heap.size := HSO.out.lt
              clear hn5
              go_wp2_with (at_builtin; refine wpList_append_apart _ rfl (.tmp 113) (.tmp 115) 50 rfl (B + 3) 82 i0 (.agg #[.int .i64 0, .int .i64 0, .int .i64 0]) 3 24 Tryd.underlying50 HI.out.1 HI.out.2.1 HI.out.2.2.1 HI.out.2.2.2 rfl (by decide) (.slice ad5 n5 c5) n5 (flat s2.told) rfl (HV.out.alloc _) ⟨X.heap.size, 0, none⟩ 1 1 (flat [((d : Int), 1, (x : Int))]) rfl rfl (one_at X _ _ _) (flat_one _) (by unfold maxLen; omega) (by omega) (by simp; omega) ?_; intro v2 w2 hown2 hgr2 hap2)
              have hst2 := HSO.out.tell (x := ((d : Int), 1, (x : Int))) (by rw [HN5.out]; exact hown2) hgr2 hap2
              have hb2 : Below w.heap.size w w2 := (HBX.out.alloc HBX.out.size _).grown hgr2 (by simp; have := HBX.out.size; omega) (fun g hg => by have := (HV.out.lt g hg).1; have := HBE.out; omega)
              go_roundw
              case rel => exact ⟨k + 1, by omega, by go_num, by rw [HNX.out]; exact hst2, hb2⟩
              case measure => simp [intOf]; omega
            · have hud : decide (rx < (d : Int)) = false := decide_eq_false hu
              have HNX : Hid (stampR leave (l.take (k + 1)) = { s with told := s.told ++ [((d : Int), 1, (x : Int))] }) := by
                show _ = _
                rw [HNY0.out]
                unfold maxI
                rw [if_neg hu, ← hrx, setF_self]
              clear hout hrx hwx HNY0
              go_wp2_with fail
              go_quiet (fail)
              obtain ⟨W2, hQ⟩ : ∃ Z : World, Z = W1.drewN nq := ⟨_, rfl⟩
              rw [← hQ]
              replace p0 : W2.cell? ⟨P, 0, none⟩ = some (.int .i64 (d : Int)) := by rw [hQ]; exact p0
              replace p1 : W2.cell? ⟨P, 1, none⟩ = some (.int .i64 1) := by rw [hQ]; exact p1
              replace p2 : W2.cell? ⟨P, 2, none⟩ = some (.int .i64 (x : Int)) := by rw [hQ]; exact p2
              replace co : W2.cell? ⟨B + 1 + 1, d, none⟩ = some (.bool false) := by rw [hQ]; exact co
              replace cr : W2.cell? ⟨B, x, none⟩ = some (.int .i64 rx) := by rw [hQ]; exact cr
              replace cw : W2.cell? ⟨B + 1, x, none⟩ = some (.int .i64 wx) := by rw [hQ]; exact cw
              replace hPW : P < W2.heap.size := by rw [hQ]; exact hPW
              replace HST : Hid (StmAt W2 B s u9 u10) := by show StmAt _ _ _ _ _; rw [hQ]; exact HST.out.below (below_drewN (Below.refl _ _) _)
              replace HBW : Hid (Below w.heap.size w W2) := by show Below _ _ _; rw [hQ]; exact below_drewN HBW.out _
              clear hQ
              go_wp2_with fail
              go_quiet (fail)
              obtain ⟨W3, hQ⟩ : ∃ Z : World, Z = W2.drewN nq := ⟨_, rfl⟩
              rw [← hQ]
              replace p0 : W3.cell? ⟨P, 0, none⟩ = some (.int .i64 (d : Int)) := by rw [hQ]; exact p0
              replace p1 : W3.cell? ⟨P, 1, none⟩ = some (.int .i64 1) := by rw [hQ]; exact p1
              replace p2 : W3.cell? ⟨P, 2, none⟩ = some (.int .i64 (x : Int)) := by rw [hQ]; exact p2
              replace co : W3.cell? ⟨B + 1 + 1, d, none⟩ = some (.bool false) := by rw [hQ]; exact co
              replace cr : W3.cell? ⟨B, x, none⟩ = some (.int .i64 rx) := by rw [hQ]; exact cr
              replace cw : W3.cell? ⟨B + 1, x, none⟩ = some (.int .i64 wx) := by rw [hQ]; exact cw
              replace hPW : P < W3.heap.size := by rw [hQ]; exact hPW
              replace HST : Hid (StmAt W3 B s u9 u10) := by show StmAt _ _ _ _ _; rw [hQ]; exact HST.out.below (below_drewN (Below.refl _ _) _)
              replace HBW : Hid (Below w.heap.size w W3) := by show Below _ _ _; rw [hQ]; exact below_drewN HBW.out _
              clear hQ
              obtain ⟨ad5, c5, hv5, -⟩ := own_slice3 HST.out.told
              have hn40 : s.told.length ≤ 40 := HLT.out.1
              obtain ⟨n5, hn5⟩ : ∃ n, s.told.length = n := ⟨_, rfl⟩
              have HN5 := hid_of3 hn5
              rw [hn5] at hn40 hv5
              subst hv5
              have HV : Hid (W3.ownsRow (B + 3) 82 3 (.slice ad5 n5 c5) n5 (flat s.told)) := by show World.ownsRow _ _ _ _ _ _ _; have := HST.out.told; rw [HN5.out] at this; exact this
              have hB1 : B + 3 ≤ W3.heap.size := HST.out.lt
              clear hn5
              go_wp2_with (at_builtin; refine wpList_append_apart _ rfl (.tmp 113) (.tmp 115) 50 rfl (B + 3) 82 i0 (.agg #[.int .i64 0, .int .i64 0, .int .i64 0]) 3 24 Tryd.underlying50 HI.out.1 HI.out.2.1 HI.out.2.2.1 HI.out.2.2.2 rfl (by decide) (.slice ad5 n5 c5) n5 (flat s.told) rfl (HV.out.alloc _) ⟨W3.heap.size, 0, none⟩ 1 1 (flat [((d : Int), 1, (x : Int))]) rfl rfl (one_at W3 _ _ _) (flat_one _) (by unfold maxLen; omega) (by omega) (by simp; omega) ?_; intro v2 w2 hown2 hgr2 hap2)
              have hst2 := HST.out.tell (x := ((d : Int), 1, (x : Int))) (by rw [HN5.out]; exact hown2) hgr2 hap2
              have hb2 : Below w.heap.size w w2 := (HBW.out.alloc HBW.out.size _).grown hgr2 (by simp; have := HBW.out.size; omega) (fun g hg => by have := (HV.out.lt g hg).1; have := HBE.out; omega)
              go_roundw
              case rel => exact ⟨k + 1, by omega, by go_num, by rw [HNX.out]; exact hst2, hb2⟩
              case measure => simp [intOf]; omega
        · by_cases hl : (d : Int) < wx
          · have hld : decide ((d : Int) < wx) = true := decide_eq_true hl
            by_cases hr : (d : Int) < rx
            · have hrd : decide ((d : Int) < rx) = true := decide_eq_true hr
              have HNX : Hid (stampR leave (l.take (k + 1)) = goneS s (d : Int)) := by
                show _ = _
                rw [HNX0.out]
                unfold stepS badS lateS
                simp only [hwx, hrx]
                rw [if_neg (by rw [hout]; decide), if_pos (by simp [hr])]
              clear hout hrx hwx
              go_wp2_with fail
              go_quiet (fail)
              obtain ⟨W2, hQ⟩ : ∃ Z : World, Z = W1.drewN nq := ⟨_, rfl⟩
              rw [← hQ]
              replace p0 : W2.cell? ⟨P, 0, none⟩ = some (.int .i64 (d : Int)) := by rw [hQ]; exact p0
              replace p1 : W2.cell? ⟨P, 1, none⟩ = some (.int .i64 2) := by rw [hQ]; exact p1
              replace p2 : W2.cell? ⟨P, 2, none⟩ = some (.int .i64 (x : Int)) := by rw [hQ]; exact p2
              replace co : W2.cell? ⟨B + 1 + 1, d, none⟩ = some (.bool false) := by rw [hQ]; exact co
              replace cr : W2.cell? ⟨B, x, none⟩ = some (.int .i64 rx) := by rw [hQ]; exact cr
              replace cw : W2.cell? ⟨B + 1, x, none⟩ = some (.int .i64 wx) := by rw [hQ]; exact cw
              replace hPW : P < W2.heap.size := by rw [hQ]; exact hPW
              replace HST : Hid (StmAt W2 B s u9 u10) := by show StmAt _ _ _ _ _; rw [hQ]; exact HST.out.below (below_drewN (Below.refl _ _) _)
              replace HBW : Hid (Below w.heap.size w W2) := by show Below _ _ _; rw [hQ]; exact below_drewN HBW.out _
              clear hQ
              go_wp2_with fail
              go_quiet (fail)
              obtain ⟨W3, hQ⟩ : ∃ Z : World, Z = W2.drewN nq := ⟨_, rfl⟩
              rw [← hQ]
              replace p0 : W3.cell? ⟨P, 0, none⟩ = some (.int .i64 (d : Int)) := by rw [hQ]; exact p0
              replace p1 : W3.cell? ⟨P, 1, none⟩ = some (.int .i64 2) := by rw [hQ]; exact p1
              replace p2 : W3.cell? ⟨P, 2, none⟩ = some (.int .i64 (x : Int)) := by rw [hQ]; exact p2
              replace co : W3.cell? ⟨B + 1 + 1, d, none⟩ = some (.bool false) := by rw [hQ]; exact co
              replace cr : W3.cell? ⟨B, x, none⟩ = some (.int .i64 rx) := by rw [hQ]; exact cr
              replace cw : W3.cell? ⟨B + 1, x, none⟩ = some (.int .i64 wx) := by rw [hQ]; exact cw
              replace hPW : P < W3.heap.size := by rw [hQ]; exact hPW
              replace HST : Hid (StmAt W3 B s u9 u10) := by show StmAt _ _ _ _ _; rw [hQ]; exact HST.out.below (below_drewN (Below.refl _ _) _)
              replace HBW : Hid (Below w.heap.size w W3) := by show Below _ _ _; rw [hQ]; exact below_drewN HBW.out _
              clear hQ
              have zo := (HST.out.out d (by omega)).2
              go_upto_region 24 with (fail)
              have hso := HST.out.setOut d true
              obtain ⟨X, hX⟩ : ∃ X, X = W3.setCell ⟨B + 1 + 1, d, none⟩ (.bool true) := ⟨_, rfl⟩
              rw [← hX] at hso ⊢
              have htx : Turns (fun j => j = B + 1 + 1) W3 X := by rw [hX]; exact turn_cell W3 ⟨B + 1 + 1, d, none⟩ (.bool true)
              have hPB : P ≠ B + 1 + 1 := by have := HPB.out; omega
              have y0 := (htx.cell (p := ⟨P, 0, none⟩) hPW hPB).trans p0
              have HBX : Hid (Below w.heap.size w X) := HBW.out.trans (htx.below HBW.out.size fun j hj e => by have := HBE.out; omega)
              obtain ⟨s2, hs2⟩ : ∃ s2 : Stm, s2 = { s with out := setF s.out (d : Int) true } := ⟨_, rfl⟩
              rw [← hs2] at hso
              have HSO := hid_of3 hso
              have HS2 := hid_of3 hs2
              obtain ⟨ad6, c6, hv6, -⟩ := own_slice3 hso.vict
              obtain ⟨n6, hn6⟩ : ∃ n, s2.vict.length = n := ⟨_, rfl⟩
              have HN6 := hid_of3 hn6
              have hn46 : n6 ≤ 40 := by rw [← hn6, hs2]; exact HLT.out.2
              rw [hn6] at hv6
              subst hv6
              have HV6 : Hid (X.ownsRow (B + 3) 3 1 (.slice ad6 n6 c6) n6 (s2.vict.map (Value.int .i64))) := by show World.ownsRow _ _ _ _ _ _ _; have := HSO.out.vict; rw [HN6.out] at this; exact this
              have hB2 : B + 3 ≤ X.heap.size := HSO.out.lt
              have hPX : P < X.heap.size := World.block_lt_of_cell? X _ y0
              clear hX hso hs2 hn6 htx p0 p1 p2 zo
              go_upto_region 25 with (at_builtin; refine wpList_append_apart _ rfl (.tmp 100) (.tmp 103) 23 rfl (B + 3) 3 j0 (.int .i64 0) 1 8 Tryd.underlying23 HJ.out.1 HJ.out.2.1 HJ.out.2.2.1 HJ.out.2.2.2 rfl (by decide) (.slice ad6 n6 c6) n6 (s2.vict.map (Value.int .i64)) rfl (HV6.out.alloc _) ⟨X.heap.size, 0, none⟩ 1 1 [.int .i64 (d : Int)] rfl rfl (cell_one_new _ _ _) (by simp [Value.oneCell']) (by unfold maxLen; omega) (by omega) (by simp; omega) ?_; intro v3 w3 hown3 hgr3 hap3)
              have hst3 := HSO.out.more (x := (d : Int)) (by rw [HN6.out]; exact hown3) hgr3 hap3
              have hb3 : Below w.heap.size w w3 := (HBX.out.alloc HBX.out.size _).grown hgr3 (by simp; have := HBX.out.size; omega) (fun g hg => by have := (HV6.out.lt g hg).1; have := HBE.out; omega)
              have y3 : w3.cell? ⟨P, 0, none⟩ = some (.int .i64 (d : Int)) := by
                have htu : Turns (fun j => (Value.slice ad6 n6 c6).ownBlock = some j) X w3 := ((Turns.refl _ X).alloc _).grown hgr3 fun _ hk => .inl hk
                exact (htu.cell (p := ⟨P, 0, none⟩) hPX (fun e => HAV.out (by simpa using e))).trans y0
              obtain ⟨s3, hs3⟩ : ∃ s3 : Stm, s3 = { s2 with vict := s2.vict ++ [(d : Int)] } := ⟨_, rfl⟩
              rw [← hs3] at hst3
              have HS3 := hid_of3 hs3
              have HST3 := hid_of3 hst3
              have HB3 := hid_of3 hb3
              obtain ⟨ad5, c5, hv5, -⟩ := own_slice3 hst3.told
              obtain ⟨n5, hn5⟩ : ∃ n, s3.told.length = n := ⟨_, rfl⟩
              have HN5 := hid_of3 hn5
              have hn40 : n5 ≤ 40 := by rw [← hn5, hs3, HS2.out]; exact HLT.out.1
              rw [hn5] at hv5
              subst hv5
              have HV : Hid (w3.ownsRow (B + 3) 82 3 (.slice ad5 n5 c5) n5 (flat s3.told)) := by show World.ownsRow _ _ _ _ _ _ _; have := HST3.out.told; rw [HN5.out] at this; exact this
              have hB3 : B + 3 ≤ w3.heap.size := HST3.out.lt
              have HGN : Hid ({ s3 with told := s3.told ++ [((d : Int), 4, 0)] } = goneS s (d : Int)) := by show _ = _; rw [HS3.out, HS2.out]; rfl
              clear hn5 hs3 hst3 hb3 hgr3 hap3 hown3 y0
              go_wp2_with (at_builtin; refine wpList_append_apart _ rfl (.tmp 105) (.tmp 109) 50 rfl (B + 3) 82 i0 (.agg #[.int .i64 0, .int .i64 0, .int .i64 0]) 3 24 Tryd.underlying50 HI.out.1 HI.out.2.1 HI.out.2.2.1 HI.out.2.2.2 rfl (by decide) (.slice ad5 n5 c5) n5 (flat s3.told) rfl (HV.out.alloc _) ⟨w3.heap.size, 0, none⟩ 1 1 (flat [((d : Int), 4, 0)]) rfl rfl (one_at w3 _ _ _) (flat_one _) (by unfold maxLen; omega) (by omega) (by simp; omega) ?_; intro v4 w4 hown4 hgr4 hap4)
              have hst4 := HST3.out.tell (x := ((d : Int), 4, 0)) (by rw [HN5.out]; exact hown4) hgr4 hap4
              rw [HGN.out] at hst4
              have hb4 : Below w.heap.size w w4 := (HB3.out.alloc HB3.out.size _).grown hgr4 (by simp; have := HB3.out.size; omega) (fun g hg => by have := (HV.out.lt g hg).1; have := HBE.out; omega)
              go_roundw
              case rel => exact ⟨k + 1, by omega, by go_num, by rw [HNX.out]; exact hst4, hb4⟩
              case measure => simp [intOf]; omega
            · have hrd : decide ((d : Int) < rx) = false := decide_eq_false hr
              cases leave with
              | true =>
                have HNX : Hid (stampR true (l.take (k + 1)) = s) := by
                  show _ = _
                  rw [HNX0.out]
                  unfold stepS badS lateS
                  simp only [hwx, hrx]
                  rw [if_neg (by rw [hout]; decide), if_neg (by simp [hr]), if_neg (by decide), if_pos trivial, if_pos (by simpa using hl)]
                clear hout hrx hwx
                go_wp2_with fail
                go_quiet (fail)
                obtain ⟨W2, hQ⟩ : ∃ Z : World, Z = W1.drewN nq := ⟨_, rfl⟩
                rw [← hQ]
                replace p0 : W2.cell? ⟨P, 0, none⟩ = some (.int .i64 (d : Int)) := by rw [hQ]; exact p0
                replace p1 : W2.cell? ⟨P, 1, none⟩ = some (.int .i64 2) := by rw [hQ]; exact p1
                replace p2 : W2.cell? ⟨P, 2, none⟩ = some (.int .i64 (x : Int)) := by rw [hQ]; exact p2
                replace co : W2.cell? ⟨B + 1 + 1, d, none⟩ = some (.bool false) := by rw [hQ]; exact co
                replace cr : W2.cell? ⟨B, x, none⟩ = some (.int .i64 rx) := by rw [hQ]; exact cr
                replace cw : W2.cell? ⟨B + 1, x, none⟩ = some (.int .i64 wx) := by rw [hQ]; exact cw
                replace hPW : P < W2.heap.size := by rw [hQ]; exact hPW
                replace HST : Hid (StmAt W2 B s u9 u10) := by show StmAt _ _ _ _ _; rw [hQ]; exact HST.out.below (below_drewN (Below.refl _ _) _)
                replace HBW : Hid (Below w.heap.size w W2) := by show Below _ _ _; rw [hQ]; exact below_drewN HBW.out _
                clear hQ
                go_wp2_with fail
                go_quiet (fail)
                obtain ⟨W3, hQ⟩ : ∃ Z : World, Z = W2.drewN nq := ⟨_, rfl⟩
                rw [← hQ]
                replace p0 : W3.cell? ⟨P, 0, none⟩ = some (.int .i64 (d : Int)) := by rw [hQ]; exact p0
                replace p1 : W3.cell? ⟨P, 1, none⟩ = some (.int .i64 2) := by rw [hQ]; exact p1
                replace p2 : W3.cell? ⟨P, 2, none⟩ = some (.int .i64 (x : Int)) := by rw [hQ]; exact p2
                replace co : W3.cell? ⟨B + 1 + 1, d, none⟩ = some (.bool false) := by rw [hQ]; exact co
                replace cr : W3.cell? ⟨B, x, none⟩ = some (.int .i64 rx) := by rw [hQ]; exact cr
                replace cw : W3.cell? ⟨B + 1, x, none⟩ = some (.int .i64 wx) := by rw [hQ]; exact cw
                replace hPW : P < W3.heap.size := by rw [hQ]; exact hPW
                replace HST : Hid (StmAt W3 B s u9 u10) := by show StmAt _ _ _ _ _; rw [hQ]; exact HST.out.below (below_drewN (Below.refl _ _) _)
                replace HBW : Hid (Below w.heap.size w W3) := by show Below _ _ _; rw [hQ]; exact below_drewN HBW.out _
                clear hQ
                go_wp2_with fail
                go_roundw
                case rel => exact ⟨k + 1, by omega, by go_num, by rw [HNX.out]; exact HST.out, HBW.out⟩
                case measure => simp [intOf]; omega
              | false =>
                have HNX : Hid (stampR false (l.take (k + 1)) = goneS s (d : Int)) := by
                  show _ = _
                  rw [HNX0.out]
                  unfold stepS badS lateS
                  simp only [hwx, hrx]
                  rw [if_neg (by rw [hout]; decide), if_pos (by simp [hl])]
                clear hout hrx hwx
                go_wp2_with fail
                go_quiet (fail)
                obtain ⟨W2, hQ⟩ : ∃ Z : World, Z = W1.drewN nq := ⟨_, rfl⟩
                rw [← hQ]
                replace p0 : W2.cell? ⟨P, 0, none⟩ = some (.int .i64 (d : Int)) := by rw [hQ]; exact p0
                replace p1 : W2.cell? ⟨P, 1, none⟩ = some (.int .i64 2) := by rw [hQ]; exact p1
                replace p2 : W2.cell? ⟨P, 2, none⟩ = some (.int .i64 (x : Int)) := by rw [hQ]; exact p2
                replace co : W2.cell? ⟨B + 1 + 1, d, none⟩ = some (.bool false) := by rw [hQ]; exact co
                replace cr : W2.cell? ⟨B, x, none⟩ = some (.int .i64 rx) := by rw [hQ]; exact cr
                replace cw : W2.cell? ⟨B + 1, x, none⟩ = some (.int .i64 wx) := by rw [hQ]; exact cw
                replace hPW : P < W2.heap.size := by rw [hQ]; exact hPW
                replace HST : Hid (StmAt W2 B s u9 u10) := by show StmAt _ _ _ _ _; rw [hQ]; exact HST.out.below (below_drewN (Below.refl _ _) _)
                replace HBW : Hid (Below w.heap.size w W2) := by show Below _ _ _; rw [hQ]; exact below_drewN HBW.out _
                clear hQ
                go_wp2_with fail
                go_quiet (fail)
                obtain ⟨W3, hQ⟩ : ∃ Z : World, Z = W2.drewN nq := ⟨_, rfl⟩
                rw [← hQ]
                replace p0 : W3.cell? ⟨P, 0, none⟩ = some (.int .i64 (d : Int)) := by rw [hQ]; exact p0
                replace p1 : W3.cell? ⟨P, 1, none⟩ = some (.int .i64 2) := by rw [hQ]; exact p1
                replace p2 : W3.cell? ⟨P, 2, none⟩ = some (.int .i64 (x : Int)) := by rw [hQ]; exact p2
                replace co : W3.cell? ⟨B + 1 + 1, d, none⟩ = some (.bool false) := by rw [hQ]; exact co
                replace cr : W3.cell? ⟨B, x, none⟩ = some (.int .i64 rx) := by rw [hQ]; exact cr
                replace cw : W3.cell? ⟨B + 1, x, none⟩ = some (.int .i64 wx) := by rw [hQ]; exact cw
                replace hPW : P < W3.heap.size := by rw [hQ]; exact hPW
                replace HST : Hid (StmAt W3 B s u9 u10) := by show StmAt _ _ _ _ _; rw [hQ]; exact HST.out.below (below_drewN (Below.refl _ _) _)
                replace HBW : Hid (Below w.heap.size w W3) := by show Below _ _ _; rw [hQ]; exact below_drewN HBW.out _
                clear hQ
                have zo := (HST.out.out d (by omega)).2
                go_upto_region 24 with (fail)
                have hso := HST.out.setOut d true
                obtain ⟨X, hX⟩ : ∃ X, X = W3.setCell ⟨B + 1 + 1, d, none⟩ (.bool true) := ⟨_, rfl⟩
                rw [← hX] at hso ⊢
                have htx : Turns (fun j => j = B + 1 + 1) W3 X := by rw [hX]; exact turn_cell W3 ⟨B + 1 + 1, d, none⟩ (.bool true)
                have hPB : P ≠ B + 1 + 1 := by have := HPB.out; omega
                have y0 := (htx.cell (p := ⟨P, 0, none⟩) hPW hPB).trans p0
                have HBX : Hid (Below w.heap.size w X) := HBW.out.trans (htx.below HBW.out.size fun j hj e => by have := HBE.out; omega)
                obtain ⟨s2, hs2⟩ : ∃ s2 : Stm, s2 = { s with out := setF s.out (d : Int) true } := ⟨_, rfl⟩
                rw [← hs2] at hso
                have HSO := hid_of3 hso
                have HS2 := hid_of3 hs2
                obtain ⟨ad6, c6, hv6, -⟩ := own_slice3 hso.vict
                obtain ⟨n6, hn6⟩ : ∃ n, s2.vict.length = n := ⟨_, rfl⟩
                have HN6 := hid_of3 hn6
                have hn46 : n6 ≤ 40 := by rw [← hn6, hs2]; exact HLT.out.2
                rw [hn6] at hv6
                subst hv6
                have HV6 : Hid (X.ownsRow (B + 3) 3 1 (.slice ad6 n6 c6) n6 (s2.vict.map (Value.int .i64))) := by show World.ownsRow _ _ _ _ _ _ _; have := HSO.out.vict; rw [HN6.out] at this; exact this
                have hB2 : B + 3 ≤ X.heap.size := HSO.out.lt
                have hPX : P < X.heap.size := World.block_lt_of_cell? X _ y0
                clear hX hso hs2 hn6 htx p0 p1 p2 zo
                go_upto_region 25 with (at_builtin; refine wpList_append_apart _ rfl (.tmp 100) (.tmp 103) 23 rfl (B + 3) 3 j0 (.int .i64 0) 1 8 Tryd.underlying23 HJ.out.1 HJ.out.2.1 HJ.out.2.2.1 HJ.out.2.2.2 rfl (by decide) (.slice ad6 n6 c6) n6 (s2.vict.map (Value.int .i64)) rfl (HV6.out.alloc _) ⟨X.heap.size, 0, none⟩ 1 1 [.int .i64 (d : Int)] rfl rfl (cell_one_new _ _ _) (by simp [Value.oneCell']) (by unfold maxLen; omega) (by omega) (by simp; omega) ?_; intro v3 w3 hown3 hgr3 hap3)
                have hst3 := HSO.out.more (x := (d : Int)) (by rw [HN6.out]; exact hown3) hgr3 hap3
                have hb3 : Below w.heap.size w w3 := (HBX.out.alloc HBX.out.size _).grown hgr3 (by simp; have := HBX.out.size; omega) (fun g hg => by have := (HV6.out.lt g hg).1; have := HBE.out; omega)
                have y3 : w3.cell? ⟨P, 0, none⟩ = some (.int .i64 (d : Int)) := by
                  have htu : Turns (fun j => (Value.slice ad6 n6 c6).ownBlock = some j) X w3 := ((Turns.refl _ X).alloc _).grown hgr3 fun _ hk => .inl hk
                  exact (htu.cell (p := ⟨P, 0, none⟩) hPX (fun e => HAV.out (by simpa using e))).trans y0
                obtain ⟨s3, hs3⟩ : ∃ s3 : Stm, s3 = { s2 with vict := s2.vict ++ [(d : Int)] } := ⟨_, rfl⟩
                rw [← hs3] at hst3
                have HS3 := hid_of3 hs3
                have HST3 := hid_of3 hst3
                have HB3 := hid_of3 hb3
                obtain ⟨ad5, c5, hv5, -⟩ := own_slice3 hst3.told
                obtain ⟨n5, hn5⟩ : ∃ n, s3.told.length = n := ⟨_, rfl⟩
                have HN5 := hid_of3 hn5
                have hn40 : n5 ≤ 40 := by rw [← hn5, hs3, HS2.out]; exact HLT.out.1
                rw [hn5] at hv5
                subst hv5
                have HV : Hid (w3.ownsRow (B + 3) 82 3 (.slice ad5 n5 c5) n5 (flat s3.told)) := by show World.ownsRow _ _ _ _ _ _ _; have := HST3.out.told; rw [HN5.out] at this; exact this
                have hB3 : B + 3 ≤ w3.heap.size := HST3.out.lt
                have HGN : Hid ({ s3 with told := s3.told ++ [((d : Int), 4, 0)] } = goneS s (d : Int)) := by show _ = _; rw [HS3.out, HS2.out]; rfl
                clear hn5 hs3 hst3 hb3 hgr3 hap3 hown3 y0
                go_wp2_with (at_builtin; refine wpList_append_apart _ rfl (.tmp 105) (.tmp 109) 50 rfl (B + 3) 82 i0 (.agg #[.int .i64 0, .int .i64 0, .int .i64 0]) 3 24 Tryd.underlying50 HI.out.1 HI.out.2.1 HI.out.2.2.1 HI.out.2.2.2 rfl (by decide) (.slice ad5 n5 c5) n5 (flat s3.told) rfl (HV.out.alloc _) ⟨w3.heap.size, 0, none⟩ 1 1 (flat [((d : Int), 4, 0)]) rfl rfl (one_at w3 _ _ _) (flat_one _) (by unfold maxLen; omega) (by omega) (by simp; omega) ?_; intro v4 w4 hown4 hgr4 hap4)
                have hst4 := HST3.out.tell (x := ((d : Int), 4, 0)) (by rw [HN5.out]; exact hown4) hgr4 hap4
                rw [HGN.out] at hst4
                have hb4 : Below w.heap.size w w4 := (HB3.out.alloc HB3.out.size _).grown hgr4 (by simp; have := HB3.out.size; omega) (fun g hg => by have := (HV.out.lt g hg).1; have := HBE.out; omega)
                go_roundw
                case rel => exact ⟨k + 1, by omega, by go_num, by rw [HNX.out]; exact hst4, hb4⟩
                case measure => simp [intOf]; omega
          · have hld : decide ((d : Int) < wx) = false := decide_eq_false hl
            by_cases hr : (d : Int) < rx
            · have hrd : decide ((d : Int) < rx) = true := decide_eq_true hr
              have HNX : Hid (stampR leave (l.take (k + 1)) = goneS s (d : Int)) := by
                show _ = _
                rw [HNX0.out]
                unfold stepS badS lateS
                simp only [hwx, hrx]
                rw [if_neg (by rw [hout]; decide), if_pos (by simp [hr])]
              clear hout hrx hwx
              go_wp2_with fail
              go_quiet (fail)
              obtain ⟨W2, hQ⟩ : ∃ Z : World, Z = W1.drewN nq := ⟨_, rfl⟩
              rw [← hQ]
              replace p0 : W2.cell? ⟨P, 0, none⟩ = some (.int .i64 (d : Int)) := by rw [hQ]; exact p0
              replace p1 : W2.cell? ⟨P, 1, none⟩ = some (.int .i64 2) := by rw [hQ]; exact p1
              replace p2 : W2.cell? ⟨P, 2, none⟩ = some (.int .i64 (x : Int)) := by rw [hQ]; exact p2
              replace co : W2.cell? ⟨B + 1 + 1, d, none⟩ = some (.bool false) := by rw [hQ]; exact co
              replace cr : W2.cell? ⟨B, x, none⟩ = some (.int .i64 rx) := by rw [hQ]; exact cr
              replace cw : W2.cell? ⟨B + 1, x, none⟩ = some (.int .i64 wx) := by rw [hQ]; exact cw
              replace hPW : P < W2.heap.size := by rw [hQ]; exact hPW
              replace HST : Hid (StmAt W2 B s u9 u10) := by show StmAt _ _ _ _ _; rw [hQ]; exact HST.out.below (below_drewN (Below.refl _ _) _)
              replace HBW : Hid (Below w.heap.size w W2) := by show Below _ _ _; rw [hQ]; exact below_drewN HBW.out _
              clear hQ
              go_wp2_with fail
              go_quiet (fail)
              obtain ⟨W3, hQ⟩ : ∃ Z : World, Z = W2.drewN nq := ⟨_, rfl⟩
              rw [← hQ]
              replace p0 : W3.cell? ⟨P, 0, none⟩ = some (.int .i64 (d : Int)) := by rw [hQ]; exact p0
              replace p1 : W3.cell? ⟨P, 1, none⟩ = some (.int .i64 2) := by rw [hQ]; exact p1
              replace p2 : W3.cell? ⟨P, 2, none⟩ = some (.int .i64 (x : Int)) := by rw [hQ]; exact p2
              replace co : W3.cell? ⟨B + 1 + 1, d, none⟩ = some (.bool false) := by rw [hQ]; exact co
              replace cr : W3.cell? ⟨B, x, none⟩ = some (.int .i64 rx) := by rw [hQ]; exact cr
              replace cw : W3.cell? ⟨B + 1, x, none⟩ = some (.int .i64 wx) := by rw [hQ]; exact cw
              replace hPW : P < W3.heap.size := by rw [hQ]; exact hPW
              replace HST : Hid (StmAt W3 B s u9 u10) := by show StmAt _ _ _ _ _; rw [hQ]; exact HST.out.below (below_drewN (Below.refl _ _) _)
              replace HBW : Hid (Below w.heap.size w W3) := by show Below _ _ _; rw [hQ]; exact below_drewN HBW.out _
              clear hQ
              have zo := (HST.out.out d (by omega)).2
              go_upto_region 24 with (fail)
              have hso := HST.out.setOut d true
              obtain ⟨X, hX⟩ : ∃ X, X = W3.setCell ⟨B + 1 + 1, d, none⟩ (.bool true) := ⟨_, rfl⟩
              rw [← hX] at hso ⊢
              have htx : Turns (fun j => j = B + 1 + 1) W3 X := by rw [hX]; exact turn_cell W3 ⟨B + 1 + 1, d, none⟩ (.bool true)
              have hPB : P ≠ B + 1 + 1 := by have := HPB.out; omega
              have y0 := (htx.cell (p := ⟨P, 0, none⟩) hPW hPB).trans p0
              have HBX : Hid (Below w.heap.size w X) := HBW.out.trans (htx.below HBW.out.size fun j hj e => by have := HBE.out; omega)
              obtain ⟨s2, hs2⟩ : ∃ s2 : Stm, s2 = { s with out := setF s.out (d : Int) true } := ⟨_, rfl⟩
              rw [← hs2] at hso
              have HSO := hid_of3 hso
              have HS2 := hid_of3 hs2
              obtain ⟨ad6, c6, hv6, -⟩ := own_slice3 hso.vict
              obtain ⟨n6, hn6⟩ : ∃ n, s2.vict.length = n := ⟨_, rfl⟩
              have HN6 := hid_of3 hn6
              have hn46 : n6 ≤ 40 := by rw [← hn6, hs2]; exact HLT.out.2
              rw [hn6] at hv6
              subst hv6
              have HV6 : Hid (X.ownsRow (B + 3) 3 1 (.slice ad6 n6 c6) n6 (s2.vict.map (Value.int .i64))) := by show World.ownsRow _ _ _ _ _ _ _; have := HSO.out.vict; rw [HN6.out] at this; exact this
              have hB2 : B + 3 ≤ X.heap.size := HSO.out.lt
              have hPX : P < X.heap.size := World.block_lt_of_cell? X _ y0
              clear hX hso hs2 hn6 htx p0 p1 p2 zo
              go_upto_region 25 with (at_builtin; refine wpList_append_apart _ rfl (.tmp 100) (.tmp 103) 23 rfl (B + 3) 3 j0 (.int .i64 0) 1 8 Tryd.underlying23 HJ.out.1 HJ.out.2.1 HJ.out.2.2.1 HJ.out.2.2.2 rfl (by decide) (.slice ad6 n6 c6) n6 (s2.vict.map (Value.int .i64)) rfl (HV6.out.alloc _) ⟨X.heap.size, 0, none⟩ 1 1 [.int .i64 (d : Int)] rfl rfl (cell_one_new _ _ _) (by simp [Value.oneCell']) (by unfold maxLen; omega) (by omega) (by simp; omega) ?_; intro v3 w3 hown3 hgr3 hap3)
              have hst3 := HSO.out.more (x := (d : Int)) (by rw [HN6.out]; exact hown3) hgr3 hap3
              have hb3 : Below w.heap.size w w3 := (HBX.out.alloc HBX.out.size _).grown hgr3 (by simp; have := HBX.out.size; omega) (fun g hg => by have := (HV6.out.lt g hg).1; have := HBE.out; omega)
              have y3 : w3.cell? ⟨P, 0, none⟩ = some (.int .i64 (d : Int)) := by
                have htu : Turns (fun j => (Value.slice ad6 n6 c6).ownBlock = some j) X w3 := ((Turns.refl _ X).alloc _).grown hgr3 fun _ hk => .inl hk
                exact (htu.cell (p := ⟨P, 0, none⟩) hPX (fun e => HAV.out (by simpa using e))).trans y0
              obtain ⟨s3, hs3⟩ : ∃ s3 : Stm, s3 = { s2 with vict := s2.vict ++ [(d : Int)] } := ⟨_, rfl⟩
              rw [← hs3] at hst3
              have HS3 := hid_of3 hs3
              have HST3 := hid_of3 hst3
              have HB3 := hid_of3 hb3
              obtain ⟨ad5, c5, hv5, -⟩ := own_slice3 hst3.told
              obtain ⟨n5, hn5⟩ : ∃ n, s3.told.length = n := ⟨_, rfl⟩
              have HN5 := hid_of3 hn5
              have hn40 : n5 ≤ 40 := by rw [← hn5, hs3, HS2.out]; exact HLT.out.1
              rw [hn5] at hv5
              subst hv5
              have HV : Hid (w3.ownsRow (B + 3) 82 3 (.slice ad5 n5 c5) n5 (flat s3.told)) := by show World.ownsRow _ _ _ _ _ _ _; have := HST3.out.told; rw [HN5.out] at this; exact this
              have hB3 : B + 3 ≤ w3.heap.size := HST3.out.lt
              have HGN : Hid ({ s3 with told := s3.told ++ [((d : Int), 4, 0)] } = goneS s (d : Int)) := by show _ = _; rw [HS3.out, HS2.out]; rfl
              clear hn5 hs3 hst3 hb3 hgr3 hap3 hown3 y0
              go_wp2_with (at_builtin; refine wpList_append_apart _ rfl (.tmp 105) (.tmp 109) 50 rfl (B + 3) 82 i0 (.agg #[.int .i64 0, .int .i64 0, .int .i64 0]) 3 24 Tryd.underlying50 HI.out.1 HI.out.2.1 HI.out.2.2.1 HI.out.2.2.2 rfl (by decide) (.slice ad5 n5 c5) n5 (flat s3.told) rfl (HV.out.alloc _) ⟨w3.heap.size, 0, none⟩ 1 1 (flat [((d : Int), 4, 0)]) rfl rfl (one_at w3 _ _ _) (flat_one _) (by unfold maxLen; omega) (by omega) (by simp; omega) ?_; intro v4 w4 hown4 hgr4 hap4)
              have hst4 := HST3.out.tell (x := ((d : Int), 4, 0)) (by rw [HN5.out]; exact hown4) hgr4 hap4
              rw [HGN.out] at hst4
              have hb4 : Below w.heap.size w w4 := (HB3.out.alloc HB3.out.size _).grown hgr4 (by simp; have := HB3.out.size; omega) (fun g hg => by have := (HV.out.lt g hg).1; have := HBE.out; omega)
              go_roundw
              case rel => exact ⟨k + 1, by omega, by go_num, by rw [HNX.out]; exact hst4, hb4⟩
              case measure => simp [intOf]; omega
            · have hrd : decide ((d : Int) < rx) = false := decide_eq_false hr
              have HNY : Hid (stampR leave (l.take (k + 1)) = { s with wr := setF s.wr (x : Int) (d : Int), told := s.told ++ [((d : Int), 2, (x : Int))] }) := by
                show _ = _
                rw [HNX0.out]
                unfold stepS badS lateS
                simp only [hwx, hrx]
                rw [if_neg (by rw [hout]; decide), if_neg (by simp [hr, hl]), if_neg (by decide), if_pos trivial, if_neg (by simpa using hl)]
              clear hout hrx hwx
              go_wp2_with fail
              go_quiet (fail)
              obtain ⟨W2, hQ⟩ : ∃ Z : World, Z = W1.drewN nq := ⟨_, rfl⟩
              rw [← hQ]
              replace p0 : W2.cell? ⟨P, 0, none⟩ = some (.int .i64 (d : Int)) := by rw [hQ]; exact p0
              replace p1 : W2.cell? ⟨P, 1, none⟩ = some (.int .i64 2) := by rw [hQ]; exact p1
              replace p2 : W2.cell? ⟨P, 2, none⟩ = some (.int .i64 (x : Int)) := by rw [hQ]; exact p2
              replace co : W2.cell? ⟨B + 1 + 1, d, none⟩ = some (.bool false) := by rw [hQ]; exact co
              replace cr : W2.cell? ⟨B, x, none⟩ = some (.int .i64 rx) := by rw [hQ]; exact cr
              replace cw : W2.cell? ⟨B + 1, x, none⟩ = some (.int .i64 wx) := by rw [hQ]; exact cw
              replace hPW : P < W2.heap.size := by rw [hQ]; exact hPW
              replace HST : Hid (StmAt W2 B s u9 u10) := by show StmAt _ _ _ _ _; rw [hQ]; exact HST.out.below (below_drewN (Below.refl _ _) _)
              replace HBW : Hid (Below w.heap.size w W2) := by show Below _ _ _; rw [hQ]; exact below_drewN HBW.out _
              clear hQ
              go_wp2_with fail
              go_quiet (fail)
              obtain ⟨W3, hQ⟩ : ∃ Z : World, Z = W2.drewN nq := ⟨_, rfl⟩
              rw [← hQ]
              replace p0 : W3.cell? ⟨P, 0, none⟩ = some (.int .i64 (d : Int)) := by rw [hQ]; exact p0
              replace p1 : W3.cell? ⟨P, 1, none⟩ = some (.int .i64 2) := by rw [hQ]; exact p1
              replace p2 : W3.cell? ⟨P, 2, none⟩ = some (.int .i64 (x : Int)) := by rw [hQ]; exact p2
              replace co : W3.cell? ⟨B + 1 + 1, d, none⟩ = some (.bool false) := by rw [hQ]; exact co
              replace cr : W3.cell? ⟨B, x, none⟩ = some (.int .i64 rx) := by rw [hQ]; exact cr
              replace cw : W3.cell? ⟨B + 1, x, none⟩ = some (.int .i64 wx) := by rw [hQ]; exact cw
              replace hPW : P < W3.heap.size := by rw [hQ]; exact hPW
              replace HST : Hid (StmAt W3 B s u9 u10) := by show StmAt _ _ _ _ _; rw [hQ]; exact HST.out.below (below_drewN (Below.refl _ _) _)
              replace HBW : Hid (Below w.heap.size w W3) := by show Below _ _ _; rw [hQ]; exact below_drewN HBW.out _
              clear hQ
              have zz := (HST.out.wr x (by omega)).2
              go_upto_region 22 with (fail)
              have hso := HST.out.setWr x (d : Int)
              obtain ⟨X, hX⟩ : ∃ X, X = W3.setCell ⟨B + 1, x, none⟩ (.int .i64 (d : Int)) := ⟨_, rfl⟩
              rw [← hX] at hso ⊢
              have htx : Turns (fun j => j = B + 1) W3 X := by rw [hX]; exact turn_cell W3 ⟨B + 1, x, none⟩ (.int .i64 (d : Int))
              have hPB : P ≠ B + 1 := by have := HPB.out; omega
              have y0 := (htx.cell (p := ⟨P, 0, none⟩) hPW hPB).trans p0
              have y1 := (htx.cell (p := ⟨P, 1, none⟩) hPW hPB).trans p1
              have y2 := (htx.cell (p := ⟨P, 2, none⟩) hPW hPB).trans p2
              have HBX : Hid (Below w.heap.size w X) := HBW.out.trans (htx.below HBW.out.size fun j hj e => by have := HBE.out; omega)
              obtain ⟨s2, hs2⟩ : ∃ s2 : Stm, s2 = { s with wr := setF s.wr (x : Int) (d : Int) } := ⟨_, rfl⟩
              rw [← hs2] at hso
              have HS2 := hid_of3 hs2
              have HSO := hid_of3 hso
              have HLT2 : Hid (s2.told.length ≤ 40) := by show _ ≤ _; rw [hs2]; exact HLT.out.1
              have HNX : Hid (stampR leave (l.take (k + 1)) = { s2 with told := s2.told ++ [((d : Int), 2, (x : Int))] }) := by show _ = _; rw [HNY.out, HS2.out]
              clear hX hso hs2 htx p0 p1 p2 co cr cw zz

              obtain ⟨ad5, c5, hv5, -⟩ := own_slice3 HSO.out.told
              have hn40 : s2.told.length ≤ 40 := HLT2.out
              obtain ⟨n5, hn5⟩ : ∃ n, s2.told.length = n := ⟨_, rfl⟩
              have HN5 := hid_of3 hn5
              rw [hn5] at hn40 hv5
              subst hv5
              have HV : Hid (X.ownsRow (B + 3) 82 3 (.slice ad5 n5 c5) n5 (flat s2.told)) := by show World.ownsRow _ _ _ _ _ _ _; have := HSO.out.told; rw [HN5.out] at this; exact this
              have hB1 : B + 3 ≤ X.heap.size := HSO.out.lt
              clear hn5
              go_wp2_with (at_builtin; refine wpList_append_apart _ rfl (.tmp 113) (.tmp 115) 50 rfl (B + 3) 82 i0 (.agg #[.int .i64 0, .int .i64 0, .int .i64 0]) 3 24 Tryd.underlying50 HI.out.1 HI.out.2.1 HI.out.2.2.1 HI.out.2.2.2 rfl (by decide) (.slice ad5 n5 c5) n5 (flat s2.told) rfl (HV.out.alloc _) ⟨X.heap.size, 0, none⟩ 1 1 (flat [((d : Int), 2, (x : Int))]) rfl rfl (one_at X _ _ _) (flat_one _) (by unfold maxLen; omega) (by omega) (by simp; omega) ?_; intro v2 w2 hown2 hgr2 hap2)
              have hst2 := HSO.out.tell (x := ((d : Int), 2, (x : Int))) (by rw [HN5.out]; exact hown2) hgr2 hap2
              have hb2 : Below w.heap.size w w2 := (HBX.out.alloc HBX.out.size _).grown hgr2 (by simp; have := HBX.out.size; omega) (fun g hg => by have := (HV.out.lt g hg).1; have := HBE.out; omega)
              go_roundw
              case rel => exact ⟨k + 1, by omega, by go_num, by rw [HNX.out]; exact hst2, hb2⟩
              case measure => simp [intOf]; omega
        · have ha1 : ¬ a = 1 := by omega
          have ha2 : ¬ a = 2 := by omega
          have ha1b : (a == 1) = false := by simpa using ha1
          have ha2b : (a == 2) = false := by simpa using ha2
          have HNX : Hid (stampR leave (l.take (k + 1)) = { s with told := s.told ++ [((d : Int), a, (x : Int))] }) := by
            show _ = _
            rw [HNX0.out]
            unfold stepS badS
            simp only [if_neg ha1, if_neg ha2]
            rw [if_neg (by rw [hout]; decide), if_neg (by decide)]
          clear hout hrx hwx hwh hxz
          obtain ⟨ad5, c5, hv5, -⟩ := own_slice3 HST.out.told
          have hn40 : s.told.length ≤ 40 := HLT.out.1
          obtain ⟨n5, hn5⟩ : ∃ n, s.told.length = n := ⟨_, rfl⟩
          have HN5 := hid_of3 hn5
          rw [hn5] at hn40 hv5
          subst hv5
          have HV : Hid (W1.ownsRow (B + 3) 82 3 (.slice ad5 n5 c5) n5 (flat s.told)) := by show World.ownsRow _ _ _ _ _ _ _; have := HST.out.told; rw [HN5.out] at this; exact this
          have hB1 : B + 3 ≤ W1.heap.size := HST.out.lt
          clear hn5
          go_wp2_with (at_builtin; refine wpList_append_apart _ rfl (.tmp 113) (.tmp 115) 50 rfl (B + 3) 82 i0 (.agg #[.int .i64 0, .int .i64 0, .int .i64 0]) 3 24 Tryd.underlying50 HI.out.1 HI.out.2.1 HI.out.2.2.1 HI.out.2.2.2 rfl (by decide) (.slice ad5 n5 c5) n5 (flat s.told) rfl (HV.out.alloc _) ⟨W1.heap.size, 0, none⟩ 1 1 (flat [((d : Int), a, (x : Int))]) rfl rfl (one_at W1 _ _ _) (flat_one _) (by unfold maxLen; omega) (by omega) (by simp; omega) ?_; intro v2 w2 hown2 hgr2 hap2)
          have hst2 := HST.out.tell (x := ((d : Int), a, (x : Int))) (by rw [HN5.out]; exact hown2) hgr2 hap2
          have hb2 : Below w.heap.size w w2 := (HBW.out.alloc HBW.out.size _).grown hgr2 (by simp; have := HBW.out.size; omega) (fun g hg => by have := (HV.out.lt g hg).1; have := HBE.out; omega)
          go_roundw
          case rel => exact ⟨k + 1, by omega, by go_num, by rw [HNX.out]; exact hst2, hb2⟩
          case measure => simp [intOf]; omega
    · have hlt' : ¬ (k : Int) < (l.length : Int) := by omega
      obtain rfl : k = l.length := by omega
      have HEND : Hid (stampR leave l = s) := by show _ = _; rw [← HSS.out, List.take_length]
      obtain ⟨ad5, c5, rfl, -⟩ := own_slice3 hst.told
      obtain ⟨ad6, c6, rfl, -⟩ := own_slice3 hst.vict
      have HT := hid_of3 (isOps_row hst.told rfl)
      have HV := hid_of3 (isInts_own hst.vict rfl)
      have HBF := hid_of3 hbel
      clear hst hbel hs
      go_wp2_with fail
      go_ret2
      rw [HEND.out]
      exact ⟨_, _, rfl, HT.out, HV.out, HBF.out⟩
end Go.Proofs.YtjaeaanpbdmfgaeDoor
