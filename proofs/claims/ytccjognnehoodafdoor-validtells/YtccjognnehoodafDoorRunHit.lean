/-
  PROVED HERE: laneref2.Run's loop over those that are done, at a Commit, of a kind below 4: did one that is done since write what the deal read, or writes?
  Conditions: the lists are short.
-/
import Derived.Test.YtccjognnehoodafDoorKindMem3
import Derived.Test.YtccjognnehoodafDoorMgar
import Derived.Deep.CutRange
import Derived.BigQuiet
namespace Go.Proofs.YtccjognnehoodafDoor
open Go.RowKit

theorem hid_r {p : Prop} (h : p) : Hid p := h
/-- A block of a code, by its number. -/
def blkOf (n : Nat) : Code → Option Code
  | .block i c => if i = n then some (.block i c) else blkOf n c
  | .seq a b => match blkOf n a with
    | some c => some c
    | none => blkOf n b
  | .loop c => blkOf n c
  | .cond _ a b => match blkOf n a with
    | some c => some c
    | none => blkOf n b
  | .scope c => blkOf n c
  | _ => none
set_option maxHeartbeats 32000000 in
set_option maxRecDepth 1000000 in
theorem hit_blk {K : Act → World → Prop} {Q' : Exit → Act → World → Prop} {c0 c2 c3 c4 c6 c7 c8 c9 c10 c12 c13 c16 c17 c18 c19 c20 c21 c22 c23 c24 c25 c26 c27 c28 c29 c30 c31 c32 c33 c34 c35 c36 c37 c38 c39 c40 c41 c42 c43 c44 c45 c46 c47 c48 c49 c50 c51 c52 c53 c54 c55 c56 c57 c58 c59 c60 c61 c62 c63 c64 c65 c66 c67 c68 c69 c70 c71 c72 c73 c74 c75 c76 c77 c78 c79 c80 c81 c82 c83 c84 c85 c86 c87 c88 c89 c90 c91 c92 c93 c94 c95 c96 c97 c98 c99 c100 c101 c102 c103 c104 c105 c106 c107 c108 c109 c110 c111 c112 c113 c114 c115 c116 c117 c118 c119 c120 c121 c122 c123 c124 c125 c126 c127 c128 c129 c130 c131 c132 c133 c134 c135 c136 c137 c138 c139 c140 c141 c142 c143 c144 c145 c146 c147 c148 c149 c150 c151 c152 c153 c154 c155 c156 c157 c158 c159 c160 c161 c162 c163 c164 c165 c166 c167 c168 c169 c170 c171 c172 c173 c174 c175 c176 c177 c178 c179 c180 c181 c182 c183 c184 c185 c186 c187 c188 c189 c190 c191 c192 c193 c194 c195 c196 c197 c198 c199 c200 c201 c202 c203 c204 c205 c206 c207 c208 c209 c210 c211 c212 c213 c214 c215 c216 c217 c218 c219 c220 c221 c222 c223 c224 c225 c226 c227 c228 c229 c230 c231 c232 c233 : Value} {w : World} {s : Kst} {at_ : Int} {dt : Nat} {c1 : KLay} {Q D : Nat} {i : Int} {r : Dl} {ads adw add : Option Addr} {ns cps nw cpw cpd : Nat} (kind : Int) (hk4 : kind < 4) (V : World)
    (hR : Rnd w V s at_ dt c1 Q D ((dt : Int), 3, i) r (.slice ads ns cps) (.slice adw nw cpw) (.slice add s.done.length cpd)) (hDS : ∀ V', Rnd w V' s at_ dt c1 Q D ((dt : Int), 3, i) r (.slice ads ns cps) (.slice adw nw cpw) (.slice add s.done.length cpd) → IsDeals V' (.slice add s.done.length cpd) s.done s.of) (hlen : r.seen.length = ns ∧ r.wrote.length = nw ∧ ns ≤ 40 ∧ nw ≤ 40) (hKL : ∀ t, (s.of t).seen.length ≤ 40 ∧ (s.of t).wrote.length ≤ 40) (hdn6 : s.done.length ≤ 6)
    (hK : ∀ (u15 u16 u17 u18 u118 u119 u120 u121 u122 u123 u124 u125 u126 u127 u128 u129 u130 u131 u132 u133 u134 u135 u136 u137 u138 u139 u140 u141 u142 u143 u144 u145 u146 u147 u148 u149 u150 u151 u152 u153 u154 u155 u156 u157 u158 u159 u160 u161 u162 u163 u164 u165 : Value) (V' : World), Rnd w V' s at_ dt c1 Q D ((dt : Int), 3, i) r (.slice ads ns cps) (.slice adw nw cpw) (.slice add s.done.length cpd) → K ⟨#[c0, .int .i64 kind, c2, c3, c4, .slice add s.done.length cpd, c6, c7, c8, c9, c10, .pointer (some ⟨D, 0, none⟩), c12, c13, .bool (!hitK kind s (dt : Int) r), u15, u16, u17, u18, c19, c20, c21, c22, c23, c24, c25, c26, c27, c28, c29, c30, c31, c32, c33, c34, c35, c36, c37, c38, c39, c40, c41, c42, c43, c44, c45, c46, c47, c48, c49, c50, c51, c52, c53, c54, c55, c56, c57, c58, c59, c60, c61, c62, c63, c64, c65, c66, c67, c68, c69, c70, c71, c72, c73, c74, c75, c76, c77, c78, c79, c80, c81, c82, c83, c84, c85, c86, c87, c88, c89, c90, c91, c92, c93, c94, c95, c96, c97, c98, c99, c100, c101, c102, c103, c104, c105, c106, c107, c108, c109, c110, c111, c112, c113, c114, c115, c116, c117, u118, u119, u120, u121, u122, u123, u124, u125, u126, u127, u128, u129, u130, u131, u132, u133, u134, u135, u136, u137, u138, u139, u140, u141, u142, u143, u144, u145, u146, u147, u148, u149, u150, u151, u152, u153, u154, u155, u156, u157, u158, u159, u160, u161, u162, u163, u164, u165, c166, c167, c168, c169, c170, c171, c172, c173, c174, c175, c176, c177, c178, c179, c180, c181, c182, c183, c184, c185, c186, c187, c188, c189, c190, c191, c192, c193, c194, c195, c196, c197, c198, c199, c200, c201, c202, c203, c204, c205, c206, c207, c208, c209, c210, c211, c212, c213, c214, c215, c216, c217, c218, c219, c220, c221, c222, c223, c224, c225, c226, c227, c228, c229, c230, c231, c232, c233], []⟩ V') :
    Code.wp Tryd.prog ((Tryd.f8.body.bind (blkOf 4)).getD .skip) (Exit.then K Q') ⟨#[c0, .int .i64 kind, c2, c3, c4, .slice add s.done.length cpd, c6, c7, c8, c9, c10, .pointer (some ⟨D, 0, none⟩), c12, c13, .bool true, .int .i64 0, c16, c17, c18, c19, c20, c21, c22, c23, c24, c25, c26, c27, c28, c29, c30, c31, c32, c33, c34, c35, c36, c37, c38, c39, c40, c41, c42, c43, c44, c45, c46, c47, c48, c49, c50, c51, c52, c53, c54, c55, c56, c57, c58, c59, c60, c61, c62, c63, c64, c65, c66, c67, c68, c69, c70, c71, c72, c73, c74, c75, c76, c77, c78, c79, c80, c81, c82, c83, c84, c85, c86, c87, c88, c89, c90, c91, c92, c93, c94, c95, c96, c97, c98, c99, c100, c101, c102, c103, c104, c105, c106, c107, c108, c109, c110, c111, c112, c113, c114, c115, c116, c117, c118, c119, c120, c121, c122, c123, c124, c125, c126, c127, c128, c129, c130, c131, c132, c133, c134, c135, c136, c137, c138, c139, c140, c141, c142, c143, c144, c145, c146, c147, c148, c149, c150, c151, c152, c153, c154, c155, c156, c157, c158, c159, c160, c161, c162, c163, c164, c165, c166, c167, c168, c169, c170, c171, c172, c173, c174, c175, c176, c177, c178, c179, c180, c181, c182, c183, c184, c185, c186, c187, c188, c189, c190, c191, c192, c193, c194, c195, c196, c197, c198, c199, c200, c201, c202, c203, c204, c205, c206, c207, c208, c209, c210, c211, c212, c213, c214, c215, c216, c217, c218, c219, c220, c221, c222, c223, c224, c225, c226, c227, c228, c229, c230, c231, c232, c233], []⟩ V := by
  conv => arg 2; whnf
  obtain ⟨mineF, hmF⟩ : ∃ f : Int → Bool, f = fun item => if 1 < kind then inB r.wrote item else readK (dt : Int) r item := ⟨_, rfl⟩
  obtain ⟨FH, hFH⟩ : ∃ FH : Int → Bool, FH = fun u => (s.of u).wrote.any fun item => decide (r.began < (s.of u).ended) && mineF item := ⟨_, rfl⟩
  have HFH := hid_r hFH
  have HMF := hid_r hmF
  have HHK : Hid (hitK kind s (dt : Int) r = s.done.any FH) := by show _ = _; rw [hFH, hmF]; rfl
  have HRN := hid_r hR
  have HDS := hid_r hDS
  have HLEN := hid_r hlen
  have HKL := hid_r hKL
  have HK := hid_r hK
  have hns40 := hlen.2.2.1
  have hnw40 := hlen.2.2.2
  clear hFH hmF hR hDS hlen hKL hK
  go_wp2_with fail
  go_loopw [14, 15] (fun v14 v15 wr => ∃ n : Nat, n ≤ s.done.length ∧ v15 = .int .i64 n ∧ v14 = .bool (!(s.done.take n).any FH) ∧ Rnd w wr s at_ dt c1 Q D ((dt : Int), 3, i) r (.slice ads ns cps) (.slice adw nw cpw) (.slice add s.done.length cpd)) (fun _ v15 _ => s.done.length - (intOf v15).toNat)
  case atStart => exact ⟨0, Nat.zero_le _, rfl, rfl, HRN.out⟩
  case round =>
    obtain ⟨n, hn, rfl, rfl, hrn⟩ := hrel
    obtain ⟨WO, hWO⟩ : ∃ W : World, W = wr := ⟨_, rfl⟩
    subst hWO
    have HRW := hid_r hrn
    clear hrn HRN
    by_cases hlt2 : n < s.done.length
    · have hlt2' : (n : Int) < (s.done.length : Int) := by omega
      have hn0 : (0 : Int) ≤ (n : Int) := by omega
      have hnn : ¬ (n : Int) < 0 := by omega
      obtain ⟨adx, bd, ofd, cpx, hvx, hax, hbx, hcx⟩ := HDS.out _ HRW.out
      simp only [Value.slice.injEq, true_and] at hvx
      obtain ⟨rfl, rfl⟩ := hvx
      obtain rfl := hax (by omega)
      obtain ⟨su, wu, hdl, k0, k1, k2, k3, k4⟩ := hcx n hlt2
      obtain ⟨u, hu⟩ : ∃ u, s.done.getD n 0 = u := ⟨_, rfl⟩
      rw [hu] at hdl k0 k1 k2
      obtain ⟨ru, hru⟩ : ∃ ru, s.of u = ru := ⟨_, rfl⟩
      rw [hru] at hdl k1 k2
      have HFU : Hid (FH u = ru.wrote.any fun item => decide (r.began < ru.ended) && mineF item) := by show _ = _; rw [HFH.out]; show ((s.of u).wrote.any fun item => decide (r.began < (s.of u).ended) && mineF item) = _; rw [hru]
      have HTK : Hid ((s.done.take (n + 1)).any FH = ((s.done.take n).any FH || FH u)) := by
        show _ = _
        rw [List.take_succ_eq_append_getElem hlt2, List.any_append]
        have : s.done[n] = u := by rw [← hu]; simp [List.getD, hlt2]
        simp [this]
      obtain ⟨wad, bw, ofw, wcp, hvw, haw, -, hbw2, hcw⟩ := hdl.wrote
      subst hvw
      obtain ⟨nl, hnl⟩ : ∃ nl, ru.wrote.length = nl := ⟨_, rfl⟩
      have HNL := hid_r hnl
      have hnl40 : nl ≤ 40 := by rw [← hnl, ← hru]; exact (HKL.out u).2
      rw [hnl] at haw hcw
      obtain ⟨b1, hb1⟩ : ∃ b1, (s.done.take n).any FH = b1 := ⟨_, rfl⟩
      rw [hb1] at HTK
      rw [hb1]
      have hbdl : bd < WO.heap.size := World.block_lt_of_cell? WO _ k0
      have HBS : Hid (∀ W, Below WO.heap.size WO W → (W.cell? ⟨bd, ofd + n * 5 + 4, none⟩ = some (.slice wad nl wcp) ∧ W.cell? ⟨bd, ofd + n * 5 + 2, none⟩ = some (.int .i64 ru.ended)) ∧ ∀ j, j < nl → wad = some ⟨bw, ofw, none⟩ ∧ W.cell? ⟨bw, ofw + j, none⟩ = some (.int .i64 (ru.wrote.getD j 0))) := fun W hW => by
        rw [hnl] at k4
        refine ⟨⟨(hW.cell (p := ⟨bd, ofd + n * 5 + 4, none⟩) hbdl).trans k4, (hW.cell (p := ⟨bd, ofd + n * 5 + 2, none⟩) hbdl).trans k2⟩, fun j hj => ⟨haw (by omega), ?_⟩⟩
        have hb0 : bw < WO.heap.size := by
          rcases hbw2 with h | h
          · exact h
          · rw [h] at hnl; simp at hnl; omega
        exact (hW.cell (p := ⟨bw, ofw + j, none⟩) hb0).trans (hcw j hj)
      clear hax hbx hcx hdl k0 k1 k2 k3 k4 hu hru haw hbw2 hcw hnl hb1
      go_wp2_with fail
      go_loopw [14, 16] (fun v14 v16 wr => ∃ j : Nat, j ≤ nl ∧ v16 = .int .i64 j ∧ v14 = .bool (!(b1 || (ru.wrote.take j).any fun item => decide (r.began < ru.ended) && mineF item)) ∧ Rnd w wr s at_ dt c1 Q D ((dt : Int), 3, i) r (.slice ads ns cps) (.slice adw nw cpw) (.slice (some ⟨bd, ofd, none⟩) s.done.length cpd) ∧ Below WO.heap.size WO wr) (fun _ v16 _ => nl - (intOf v16).toNat)
      case atStart => exact ⟨0, Nat.zero_le _, rfl, by simp, HRW.out, Below.refl _ _⟩
      case round =>
        obtain ⟨j, hj, rfl, rfl, hri, hbi⟩ := hrel
        have HRI := hid_r hri
        have HBI := hid_r hbi
        obtain ⟨⟨m4, m2⟩, mw⟩ := HBS.out _ hbi
        obtain ⟨q0, q1, q2, q3, q4⟩ := hri.dl.cells
        clear hri hbi
        by_cases hlt3 : j < nl
        · have hlt3' : (j : Int) < (nl : Int) := by omega
          have hj0 : (0 : Int) ≤ (j : Int) := by omega
          have hjn : ¬ (j : Int) < 0 := by omega
          obtain ⟨rfl, m0⟩ := mw j hlt3
          obtain ⟨it, hit⟩ : ∃ it, ru.wrote.getD j 0 = it := ⟨_, rfl⟩
          rw [hit] at m0
          obtain ⟨b2, hb2⟩ : ∃ b2, ((ru.wrote.take j).any fun item => decide (r.began < ru.ended) && mineF item) = b2 := ⟨_, rfl⟩
          obtain ⟨b3, hb3⟩ : ∃ b3, decide (r.began < ru.ended) = b3 := ⟨_, rfl⟩
          obtain ⟨b4, hb4⟩ : ∃ b4, mineF it = b4 := ⟨_, rfl⟩
          have HTJ : Hid ((b1 || (ru.wrote.take (j + 1)).any fun item => decide (r.began < ru.ended) && mineF item) = (b1 || (b2 || (b3 && b4)))) := by
            show _ = _
            have hjl : j < ru.wrote.length := by rw [HNL.out]; exact hlt3
            rw [List.take_succ_eq_append_getElem hjl, List.any_append, hb2]
            have h9 : ru.wrote[j] = it := by rw [← hit]; simp [List.getD, hjl]
            simp [h9, hb4, hb3]
          have HRDc : Hid (Calls Tryd.prog 23 #[.agg #[.int .i64 (dt : Int), .int .i64 r.began, .int .i64 r.ended, .slice ads ns cps, .slice adw nw cpw], .int .i64 it] wr fun e w' => e = .returned (.bool (readK (dt : Int) r it)) ∧ Below wr.heap.size wr w') :=
            read_any (dt : Int) r (.slice ads ns cps) (.slice adw nw cpw) it wr ⟨isOps_row HRI.out.seenR rfl, isInts_own HRI.out.wroteR rfl, by rw [HLEN.out.1, HLEN.out.2.1]; omega⟩
          have HINc : Hid (∀ W, Rnd w W s at_ dt c1 Q D ((dt : Int), 3, i) r (.slice ads ns cps) (.slice adw nw cpw) (.slice (some ⟨bd, ofd, none⟩) s.done.length cpd) → Calls Tryd.prog 21 #[.slice adw nw cpw, .int .i64 it] W fun e w' => e = .returned (.bool (inB r.wrote it)) ∧ w' = W) := fun W hW => in_any r.wrote (.slice adw nw cpw) it W (isInts_own hW.wroteR rfl) (by rw [HLEN.out.2.1]; omega)
          have HM1 : Hid (mineF it = if 1 < kind then inB r.wrote it else readK (dt : Int) r it) := by show _ = _; rw [HMF.out]
          rw [hb2]
          clear hit hb2 mw
          by_cases hk1 : 1 < kind
          · have HIN2 : Hid (∀ W, Rnd w W s at_ dt c1 Q D ((dt : Int), 3, i) r (.slice ads ns cps) (.slice adw nw cpw) (.slice (some ⟨bd, ofd, none⟩) s.done.length cpd) → Calls Tryd.prog 21 #[.slice adw nw cpw, .int .i64 it] W fun e w' => e = .returned (.bool b4) ∧ w' = W) := by
              have h9 := HINc.out
              rw [← hb4, HM1.out, if_pos hk1]
              exact h9
            obtain ⟨br, hbr⟩ : ∃ b, readK (dt : Int) r it = b := ⟨_, rfl⟩
            rw [hbr] at HRDc
            clear hb4 hbr HINc
            go_wp2_with fail
            refine HRDc.out.mono ?_
            rintro e w3 ⟨rfl, hb9⟩
            have HR3 := hid_r (HRI.out.below hb9)
            have HB3 : Hid (Below WO.heap.size WO w3) := HBI.out.trans (hb9.mono HBI.out.size)
            obtain ⟨⟨m4', m2'⟩, -⟩ := HBS.out _ HB3.out
            obtain ⟨t0, t1, t2, t3, t4⟩ := HR3.out.dl.cells
            clear hb9 m0 m4 m2 q0 q1 q2 q3 q4 HRDc HRI HBI
            go_wp2_with fail
            refine (HIN2.out _ HR3.out).mono ?_
            rintro e w4 ⟨rfl, hw4⟩
            subst hw4
            cases b3 with
            | false =>
              have hng : decide (r.began < ru.ended) = false := hb3
              go_wp2_with fail
              go_quiet (fail)
              go_wp2_with fail
              go_roundw
              case rel => exact ⟨j + 1, by omega, by go_num, by rw [HTJ.out]; simp, HR3.out.below (below_drewN (Below.refl _ _) _), below_drewN HB3.out _⟩
              case measure => simp [intOf]; omega
            | true =>
              have hng : decide (r.began < ru.ended) = true := hb3
              cases b4 with
              | false =>
                go_wp2_with fail
                go_quiet (fail)
                go_wp2_with fail
                go_roundw
                case rel => exact ⟨j + 1, by omega, by go_num, by rw [HTJ.out]; simp, HR3.out.below (below_drewN (Below.refl _ _) _), below_drewN HB3.out _⟩
                case measure => simp [intOf]; omega
              | true =>
                go_wp2_with fail
                go_quiet (fail)
                go_wp2_with fail
                go_roundw
                case rel => exact ⟨j + 1, by omega, by go_num, by rw [HTJ.out]; simp, HR3.out.below (below_drewN (Below.refl _ _) _), below_drewN HB3.out _⟩
                case measure => simp [intOf]; omega
          · have HRD2 : Hid (Calls Tryd.prog 23 #[.agg #[.int .i64 (dt : Int), .int .i64 r.began, .int .i64 r.ended, .slice ads ns cps, .slice adw nw cpw], .int .i64 it] wr fun e w' => e = .returned (.bool b4) ∧ Below wr.heap.size wr w') := by
              have h9 := HRDc.out
              rw [← hb4, HM1.out, if_neg hk1]
              exact h9
            clear hb4 HRDc HINc
            go_wp2_with fail
            refine HRD2.out.mono ?_
            rintro e w3 ⟨rfl, hb9⟩
            have HR3 := hid_r (HRI.out.below hb9)
            have HB3 : Hid (Below WO.heap.size WO w3) := HBI.out.trans (hb9.mono HBI.out.size)
            obtain ⟨⟨m4', m2'⟩, -⟩ := HBS.out _ HB3.out
            obtain ⟨t0, t1, t2, t3, t4⟩ := HR3.out.dl.cells
            clear hb9 m0 m4 m2 q0 q1 q2 q3 q4 HRD2 HRI HBI
            cases b3 with
            | false =>
              have hng : decide (r.began < ru.ended) = false := hb3
              go_wp2_with fail
              go_quiet (fail)
              go_wp2_with fail
              go_roundw
              case rel => exact ⟨j + 1, by omega, by go_num, by rw [HTJ.out]; simp, HR3.out.below (below_drewN (Below.refl _ _) _), below_drewN HB3.out _⟩
              case measure => simp [intOf]; omega
            | true =>
              have hng : decide (r.began < ru.ended) = true := hb3
              cases b4 with
              | false =>
                go_wp2_with fail
                go_quiet (fail)
                go_wp2_with fail
                go_roundw
                case rel => exact ⟨j + 1, by omega, by go_num, by rw [HTJ.out]; simp, HR3.out.below (below_drewN (Below.refl _ _) _), below_drewN HB3.out _⟩
                case measure => simp [intOf]; omega
              | true =>
                go_wp2_with fail
                go_quiet (fail)
                go_wp2_with fail
                go_roundw
                case rel => exact ⟨j + 1, by omega, by go_num, by rw [HTJ.out]; simp, HR3.out.below (below_drewN (Below.refl _ _) _), below_drewN HB3.out _⟩
                case measure => simp [intOf]; omega
        · have hlt3' : ¬ (j : Int) < (nl : Int) := by omega
          obtain rfl : j = nl := by omega
          have HFN : Hid ((s.done.take (n + 1)).any FH = (b1 || (ru.wrote.take j).any fun item => decide (r.began < ru.ended) && mineF item)) := by show _ = _; rw [HTK.out, HFU.out, ← HNL.out, List.take_length]
          go_wp2_with fail
          go_roundw
          case rel => exact ⟨n + 1, by omega, by go_num, by rw [HFN.out], HRI.out⟩
          case measure => simp [intOf]; omega
    · have hlt2' : ¬ (n : Int) < (s.done.length : Int) := by omega
      obtain rfl : n = s.done.length := by omega
      rw [List.take_length, ← HHK.out]
      go_wp2_with fail
      exact HK.out _ _ _ _ _ _ _ _ _ _ _ _ _ _ _ _ _ _ _ _ _ _ _ _ _ _ _ _ _ _ _ _ _ _ _ _ _ _ _ _ _ _ _ _ _ _ _ _ _ _ _ _ _ HRW.out
end Go.Proofs.YtccjognnehoodafDoor
