/-
  PROVED HERE: laneref2.Run's loop over those that are done, at a Commit, of a kind below 4: did one that is done since write what the deal read, or writes?
  Conditions: the lists are short.
  PROVED HERE: laneref2.Run's switch at a Write, an Abort, and a Read of kinds 1, 2 and 3: what becomes of the deal.
  Conditions: the lists are short.
-/
import Derived.Test.YtccjognnehoodagGreatDoorMgbs
import Derived.Test.YtccjognnehoodagGreatDoorMgar
import Derived.Deep.CutRange
import Derived.BigQuiet
namespace Go.Proofs.YtccjognnehoodagGreatDoor
open Go.RowKit

theorem hid_r {p : Prop} (h : p) : Hid p := h
/-- A block of a code, by its number. -/
def blkOf (n : Nat) : Code → Option Code
  | .block i c => if i = n then some (.block i c) else blkOf n c
  | .seq a b => match blkOf n a with
    | some c => some c
    | none => blkOf n b
  | .loop c => blkOf n c
  | .cond _ a b => match blkOf n a with
    | some c => some c
    | none => blkOf n b
  | .scope c => blkOf n c
  | _ => none
set_option maxHeartbeats 32000000 in
set_option maxRecDepth 1000000 in
theorem hit_blk {K : Act → World → Prop} {Q' : Exit → Act → World → Prop} {c0 c2 c3 c4 c6 c7 c8 c9 c10 c12 c13 c16 c17 c18 c19 c20 c21 c22 c23 c24 c25 c26 c27 c28 c29 c30 c31 c32 c33 c34 c35 c36 c37 c38 c39 c40 c41 c42 c43 c44 c45 c46 c47 c48 c49 c50 c51 c52 c53 c54 c55 c56 c57 c58 c59 c60 c61 c62 c63 c64 c65 c66 c67 c68 c69 c70 c71 c72 c73 c74 c75 c76 c77 c78 c79 c80 c81 c82 c83 c84 c85 c86 c87 c88 c89 c90 c91 c92 c93 c94 c95 c96 c97 c98 c99 c100 c101 c102 c103 c104 c105 c106 c107 c108 c109 c110 c111 c112 c113 c114 c115 c116 c117 c118 c119 c120 c121 c122 c123 c124 c125 c126 c127 c128 c129 c130 c131 c132 c133 c134 c135 c136 c137 c138 c139 c140 c141 c142 c143 c144 c145 c146 c147 c148 c149 c150 c151 c152 c153 c154 c155 c156 c157 c158 c159 c160 c161 c162 c163 c164 c165 c166 c167 c168 c169 c170 c171 c172 c173 c174 c175 c176 c177 c178 c179 c180 c181 c182 c183 c184 c185 c186 c187 c188 c189 c190 c191 c192 c193 c194 c195 c196 c197 c198 c199 c200 c201 c202 c203 c204 c205 c206 c207 c208 c209 c210 c211 c212 c213 c214 c215 c216 c217 c218 c219 c220 c221 c222 c223 c224 c225 c226 c227 c228 c229 c230 c231 c232 c233 : Value} {w : World} {s : Kst} {at_ : Int} {dt : Nat} {c1 : KLay} {Q D : Nat} {i : Int} {r : Dl} {ads adw add : Option Addr} {ns cps nw cpw cpd : Nat} (kind : Int) (hk4 : kind < 4) (V : World)
    (hR : Rnd w V s at_ dt c1 Q D ((dt : Int), 3, i) r (.slice ads ns cps) (.slice adw nw cpw) (.slice add s.done.length cpd)) (hDS : ∀ V', Rnd w V' s at_ dt c1 Q D ((dt : Int), 3, i) r (.slice ads ns cps) (.slice adw nw cpw) (.slice add s.done.length cpd) → IsDeals V' (.slice add s.done.length cpd) s.done s.of) (hlen : r.seen.length = ns ∧ r.wrote.length = nw ∧ ns ≤ 40 ∧ nw ≤ 40) (hKL : ∀ t, (s.of t).seen.length ≤ 40 ∧ (s.of t).wrote.length ≤ 40) (hdn6 : s.done.length ≤ 6)
    (hK : ∀ (u15 u16 u17 u18 u118 u119 u120 u121 u122 u123 u124 u125 u126 u127 u128 u129 u130 u131 u132 u133 u134 u135 u136 u137 u138 u139 u140 u141 u142 u143 u144 u145 u146 u147 u148 u149 u150 u151 u152 u153 u154 u155 u156 u157 u158 u159 u160 u161 u162 u163 u164 u165 : Value) (V' : World), Rnd w V' s at_ dt c1 Q D ((dt : Int), 3, i) r (.slice ads ns cps) (.slice adw nw cpw) (.slice add s.done.length cpd) → K ⟨#[c0, .int .i64 kind, c2, c3, c4, .slice add s.done.length cpd, c6, c7, c8, c9, c10, .pointer (some ⟨D, 0, none⟩), c12, c13, .bool (!hitK kind s (dt : Int) r), u15, u16, u17, u18, c19, c20, c21, c22, c23, c24, c25, c26, c27, c28, c29, c30, c31, c32, c33, c34, c35, c36, c37, c38, c39, c40, c41, c42, c43, c44, c45, c46, c47, c48, c49, c50, c51, c52, c53, c54, c55, c56, c57, c58, c59, c60, c61, c62, c63, c64, c65, c66, c67, c68, c69, c70, c71, c72, c73, c74, c75, c76, c77, c78, c79, c80, c81, c82, c83, c84, c85, c86, c87, c88, c89, c90, c91, c92, c93, c94, c95, c96, c97, c98, c99, c100, c101, c102, c103, c104, c105, c106, c107, c108, c109, c110, c111, c112, c113, c114, c115, c116, c117, u118, u119, u120, u121, u122, u123, u124, u125, u126, u127, u128, u129, u130, u131, u132, u133, u134, u135, u136, u137, u138, u139, u140, u141, u142, u143, u144, u145, u146, u147, u148, u149, u150, u151, u152, u153, u154, u155, u156, u157, u158, u159, u160, u161, u162, u163, u164, u165, c166, c167, c168, c169, c170, c171, c172, c173, c174, c175, c176, c177, c178, c179, c180, c181, c182, c183, c184, c185, c186, c187, c188, c189, c190, c191, c192, c193, c194, c195, c196, c197, c198, c199, c200, c201, c202, c203, c204, c205, c206, c207, c208, c209, c210, c211, c212, c213, c214, c215, c216, c217, c218, c219, c220, c221, c222, c223, c224, c225, c226, c227, c228, c229, c230, c231, c232, c233], []⟩ V') :
    Code.wp Tryz.prog ((Tryz.f7.body.bind (blkOf 4)).getD .skip) (Exit.then K Q') ⟨#[c0, .int .i64 kind, c2, c3, c4, .slice add s.done.length cpd, c6, c7, c8, c9, c10, .pointer (some ⟨D, 0, none⟩), c12, c13, .bool true, .int .i64 0, c16, c17, c18, c19, c20, c21, c22, c23, c24, c25, c26, c27, c28, c29, c30, c31, c32, c33, c34, c35, c36, c37, c38, c39, c40, c41, c42, c43, c44, c45, c46, c47, c48, c49, c50, c51, c52, c53, c54, c55, c56, c57, c58, c59, c60, c61, c62, c63, c64, c65, c66, c67, c68, c69, c70, c71, c72, c73, c74, c75, c76, c77, c78, c79, c80, c81, c82, c83, c84, c85, c86, c87, c88, c89, c90, c91, c92, c93, c94, c95, c96, c97, c98, c99, c100, c101, c102, c103, c104, c105, c106, c107, c108, c109, c110, c111, c112, c113, c114, c115, c116, c117, c118, c119, c120, c121, c122, c123, c124, c125, c126, c127, c128, c129, c130, c131, c132, c133, c134, c135, c136, c137, c138, c139, c140, c141, c142, c143, c144, c145, c146, c147, c148, c149, c150, c151, c152, c153, c154, c155, c156, c157, c158, c159, c160, c161, c162, c163, c164, c165, c166, c167, c168, c169, c170, c171, c172, c173, c174, c175, c176, c177, c178, c179, c180, c181, c182, c183, c184, c185, c186, c187, c188, c189, c190, c191, c192, c193, c194, c195, c196, c197, c198, c199, c200, c201, c202, c203, c204, c205, c206, c207, c208, c209, c210, c211, c212, c213, c214, c215, c216, c217, c218, c219, c220, c221, c222, c223, c224, c225, c226, c227, c228, c229, c230, c231, c232, c233], []⟩ V := by
  conv => arg 2; whnf
  obtain ⟨mineF, hmF⟩ : ∃ f : Int → Bool, f = fun item => if 1 < kind then inB r.wrote item else readK (dt : Int) r item := ⟨_, rfl⟩
  obtain ⟨FH, hFH⟩ : ∃ FH : Int → Bool, FH = fun u => (s.of u).wrote.any fun item => decide (r.began < (s.of u).ended) && mineF item := ⟨_, rfl⟩
  have HFH := hid_r hFH
  have HMF := hid_r hmF
  have HHK : Hid (hitK kind s (dt : Int) r = s.done.any FH) := by show _ = _; rw [hFH, hmF]; rfl
  have HRN := hid_r hR
  have HDS := hid_r hDS
  have HLEN := hid_r hlen
  have HKL := hid_r hKL
  have HK := hid_r hK
  have hns40 := hlen.2.2.1
  have hnw40 := hlen.2.2.2
  clear hFH hmF hR hDS hlen hKL hK
  go_wp2_with fail
  go_loopw [14, 15] (fun v14 v15 wr => ∃ n : Nat, n ≤ s.done.length ∧ v15 = .int .i64 n ∧ v14 = .bool (!(s.done.take n).any FH) ∧ Rnd w wr s at_ dt c1 Q D ((dt : Int), 3, i) r (.slice ads ns cps) (.slice adw nw cpw) (.slice add s.done.length cpd)) (fun _ v15 _ => s.done.length - (intOf v15).toNat)
  case atStart => exact ⟨0, Nat.zero_le _, rfl, rfl, HRN.out⟩
  case round =>
    obtain ⟨n, hn, rfl, rfl, hrn⟩ := hrel
    obtain ⟨WO, hWO⟩ : ∃ W : World, W = wr := ⟨_, rfl⟩
    subst hWO
    have HRW := hid_r hrn
    clear hrn HRN
    by_cases hlt2 : n < s.done.length
    · have hlt2' : (n : Int) < (s.done.length : Int) := by omega
      have hn0 : (0 : Int) ≤ (n : Int) := by omega
      have hnn : ¬ (n : Int) < 0 := by omega
      obtain ⟨adx, bd, ofd, cpx, hvx, hax, hbx, hcx⟩ := HDS.out _ HRW.out
      simp only [Value.slice.injEq, true_and] at hvx
      obtain ⟨rfl, rfl⟩ := hvx
      obtain rfl := hax (by omega)
      obtain ⟨su, wu, hdl, k0, k1, k2, k3, k4⟩ := hcx n hlt2
      obtain ⟨u, hu⟩ : ∃ u, s.done.getD n 0 = u := ⟨_, rfl⟩
      rw [hu] at hdl k0 k1 k2
      obtain ⟨ru, hru⟩ : ∃ ru, s.of u = ru := ⟨_, rfl⟩
      rw [hru] at hdl k1 k2
      have HFU : Hid (FH u = ru.wrote.any fun item => decide (r.began < ru.ended) && mineF item) := by show _ = _; rw [HFH.out]; show ((s.of u).wrote.any fun item => decide (r.began < (s.of u).ended) && mineF item) = _; rw [hru]
      have HTK : Hid ((s.done.take (n + 1)).any FH = ((s.done.take n).any FH || FH u)) := by
        show _ = _
        rw [List.take_succ_eq_append_getElem hlt2, List.any_append]
        have : s.done[n] = u := by rw [← hu]; simp [List.getD, hlt2]
        simp [this]
      obtain ⟨wad, bw, ofw, wcp, hvw, haw, -, hbw2, hcw⟩ := hdl.wrote
      subst hvw
      obtain ⟨nl, hnl⟩ : ∃ nl, ru.wrote.length = nl := ⟨_, rfl⟩
      have HNL := hid_r hnl
      have hnl40 : nl ≤ 40 := by rw [← hnl, ← hru]; exact (HKL.out u).2
      rw [hnl] at haw hcw
      obtain ⟨b1, hb1⟩ : ∃ b1, (s.done.take n).any FH = b1 := ⟨_, rfl⟩
      rw [hb1] at HTK
      rw [hb1]
      have hbdl : bd < WO.heap.size := World.block_lt_of_cell? WO _ k0
      have HBS : Hid (∀ W, Below WO.heap.size WO W → (W.cell? ⟨bd, ofd + n * 5 + 4, none⟩ = some (.slice wad nl wcp) ∧ W.cell? ⟨bd, ofd + n * 5 + 2, none⟩ = some (.int .i64 ru.ended)) ∧ ∀ j, j < nl → wad = some ⟨bw, ofw, none⟩ ∧ W.cell? ⟨bw, ofw + j, none⟩ = some (.int .i64 (ru.wrote.getD j 0))) := fun W hW => by
        rw [hnl] at k4
        refine ⟨⟨(hW.cell (p := ⟨bd, ofd + n * 5 + 4, none⟩) hbdl).trans k4, (hW.cell (p := ⟨bd, ofd + n * 5 + 2, none⟩) hbdl).trans k2⟩, fun j hj => ⟨haw (by omega), ?_⟩⟩
        have hb0 : bw < WO.heap.size := by
          rcases hbw2 with h | h
          · exact h
          · rw [h] at hnl; simp at hnl; omega
        exact (hW.cell (p := ⟨bw, ofw + j, none⟩) hb0).trans (hcw j hj)
      clear hax hbx hcx hdl k0 k1 k2 k3 k4 hu hru haw hbw2 hcw hnl hb1
      go_wp2_with fail
      go_loopw [14, 16] (fun v14 v16 wr => ∃ j : Nat, j ≤ nl ∧ v16 = .int .i64 j ∧ v14 = .bool (!(b1 || (ru.wrote.take j).any fun item => decide (r.began < ru.ended) && mineF item)) ∧ Rnd w wr s at_ dt c1 Q D ((dt : Int), 3, i) r (.slice ads ns cps) (.slice adw nw cpw) (.slice (some ⟨bd, ofd, none⟩) s.done.length cpd) ∧ Below WO.heap.size WO wr) (fun _ v16 _ => nl - (intOf v16).toNat)
      case atStart => exact ⟨0, Nat.zero_le _, rfl, by simp, HRW.out, Below.refl _ _⟩
      case round =>
        obtain ⟨j, hj, rfl, rfl, hri, hbi⟩ := hrel
        have HRI := hid_r hri
        have HBI := hid_r hbi
        obtain ⟨⟨m4, m2⟩, mw⟩ := HBS.out _ hbi
        obtain ⟨q0, q1, q2, q3, q4⟩ := hri.dl.cells
        clear hri hbi
        by_cases hlt3 : j < nl
        · have hlt3' : (j : Int) < (nl : Int) := by omega
          have hj0 : (0 : Int) ≤ (j : Int) := by omega
          have hjn : ¬ (j : Int) < 0 := by omega
          obtain ⟨rfl, m0⟩ := mw j hlt3
          obtain ⟨it, hit⟩ : ∃ it, ru.wrote.getD j 0 = it := ⟨_, rfl⟩
          rw [hit] at m0
          obtain ⟨b2, hb2⟩ : ∃ b2, ((ru.wrote.take j).any fun item => decide (r.began < ru.ended) && mineF item) = b2 := ⟨_, rfl⟩
          obtain ⟨b3, hb3⟩ : ∃ b3, decide (r.began < ru.ended) = b3 := ⟨_, rfl⟩
          obtain ⟨b4, hb4⟩ : ∃ b4, mineF it = b4 := ⟨_, rfl⟩
          have HTJ : Hid ((b1 || (ru.wrote.take (j + 1)).any fun item => decide (r.began < ru.ended) && mineF item) = (b1 || (b2 || (b3 && b4)))) := by
            show _ = _
            have hjl : j < ru.wrote.length := by rw [HNL.out]; exact hlt3
            rw [List.take_succ_eq_append_getElem hjl, List.any_append, hb2]
            have h9 : ru.wrote[j] = it := by rw [← hit]; simp [List.getD, hjl]
            simp [h9, hb4, hb3]
          have HRDc : Hid (Calls Tryz.prog 19 #[.agg #[.int .i64 (dt : Int), .int .i64 r.began, .int .i64 r.ended, .slice ads ns cps, .slice adw nw cpw], .int .i64 it] wr fun e w' => e = .returned (.bool (readK (dt : Int) r it)) ∧ Below wr.heap.size wr w') :=
            read_any (dt : Int) r (.slice ads ns cps) (.slice adw nw cpw) it wr ⟨isOps_row HRI.out.seenR rfl, isInts_own HRI.out.wroteR rfl, by rw [HLEN.out.1, HLEN.out.2.1]; omega⟩
          have HINc : Hid (∀ W, Rnd w W s at_ dt c1 Q D ((dt : Int), 3, i) r (.slice ads ns cps) (.slice adw nw cpw) (.slice (some ⟨bd, ofd, none⟩) s.done.length cpd) → Calls Tryz.prog 21 #[.slice adw nw cpw, .int .i64 it] W fun e w' => e = .returned (.bool (inB r.wrote it)) ∧ w' = W) := fun W hW => in_any r.wrote (.slice adw nw cpw) it W (isInts_own hW.wroteR rfl) (by rw [HLEN.out.2.1]; omega)
          have HM1 : Hid (mineF it = if 1 < kind then inB r.wrote it else readK (dt : Int) r it) := by show _ = _; rw [HMF.out]
          rw [hb2]
          clear hit hb2 mw
          by_cases hk1 : 1 < kind
          · have HIN2 : Hid (∀ W, Rnd w W s at_ dt c1 Q D ((dt : Int), 3, i) r (.slice ads ns cps) (.slice adw nw cpw) (.slice (some ⟨bd, ofd, none⟩) s.done.length cpd) → Calls Tryz.prog 21 #[.slice adw nw cpw, .int .i64 it] W fun e w' => e = .returned (.bool b4) ∧ w' = W) := by
              have h9 := HINc.out
              rw [← hb4, HM1.out, if_pos hk1]
              exact h9
            obtain ⟨br, hbr⟩ : ∃ b, readK (dt : Int) r it = b := ⟨_, rfl⟩
            rw [hbr] at HRDc
            clear hb4 hbr HINc
            go_wp2_with fail
            refine HRDc.out.mono ?_
            rintro e w3 ⟨rfl, hb9⟩
            have HR3 := hid_r (HRI.out.below hb9)
            have HB3 : Hid (Below WO.heap.size WO w3) := HBI.out.trans (hb9.mono HBI.out.size)
            obtain ⟨⟨m4', m2'⟩, -⟩ := HBS.out _ HB3.out
            obtain ⟨t0, t1, t2, t3, t4⟩ := HR3.out.dl.cells
            clear hb9 m0 m4 m2 q0 q1 q2 q3 q4 HRDc HRI HBI
            go_wp2_with fail
            refine (HIN2.out _ HR3.out).mono ?_
            rintro e w4 ⟨rfl, hw4⟩
            subst hw4
            cases b3 with
            | false =>
              have hng : decide (r.began < ru.ended) = false := hb3
              go_wp2_with fail
              go_quiet (fail)
              go_wp2_with fail
              go_roundw
              case rel => exact ⟨j + 1, by omega, by go_num, by rw [HTJ.out]; simp, HR3.out.below (below_drewN (Below.refl _ _) _), below_drewN HB3.out _⟩
              case measure => simp [intOf]; omega
            | true =>
              have hng : decide (r.began < ru.ended) = true := hb3
              cases b4 with
              | false =>
                go_wp2_with fail
                go_quiet (fail)
                go_wp2_with fail
                go_roundw
                case rel => exact ⟨j + 1, by omega, by go_num, by rw [HTJ.out]; simp, HR3.out.below (below_drewN (Below.refl _ _) _), below_drewN HB3.out _⟩
                case measure => simp [intOf]; omega
              | true =>
                go_wp2_with fail
                go_quiet (fail)
                go_wp2_with fail
                go_roundw
                case rel => exact ⟨j + 1, by omega, by go_num, by rw [HTJ.out]; simp, HR3.out.below (below_drewN (Below.refl _ _) _), below_drewN HB3.out _⟩
                case measure => simp [intOf]; omega
          · have HRD2 : Hid (Calls Tryz.prog 19 #[.agg #[.int .i64 (dt : Int), .int .i64 r.began, .int .i64 r.ended, .slice ads ns cps, .slice adw nw cpw], .int .i64 it] wr fun e w' => e = .returned (.bool b4) ∧ Below wr.heap.size wr w') := by
              have h9 := HRDc.out
              rw [← hb4, HM1.out, if_neg hk1]
              exact h9
            clear hb4 HRDc HINc
            go_wp2_with fail
            refine HRD2.out.mono ?_
            rintro e w3 ⟨rfl, hb9⟩
            have HR3 := hid_r (HRI.out.below hb9)
            have HB3 : Hid (Below WO.heap.size WO w3) := HBI.out.trans (hb9.mono HBI.out.size)
            obtain ⟨⟨m4', m2'⟩, -⟩ := HBS.out _ HB3.out
            obtain ⟨t0, t1, t2, t3, t4⟩ := HR3.out.dl.cells
            clear hb9 m0 m4 m2 q0 q1 q2 q3 q4 HRD2 HRI HBI
            cases b3 with
            | false =>
              have hng : decide (r.began < ru.ended) = false := hb3
              go_wp2_with fail
              go_quiet (fail)
              go_wp2_with fail
              go_roundw
              case rel => exact ⟨j + 1, by omega, by go_num, by rw [HTJ.out]; simp, HR3.out.below (below_drewN (Below.refl _ _) _), below_drewN HB3.out _⟩
              case measure => simp [intOf]; omega
            | true =>
              have hng : decide (r.began < ru.ended) = true := hb3
              cases b4 with
              | false =>
                go_wp2_with fail
                go_quiet (fail)
                go_wp2_with fail
                go_roundw
                case rel => exact ⟨j + 1, by omega, by go_num, by rw [HTJ.out]; simp, HR3.out.below (below_drewN (Below.refl _ _) _), below_drewN HB3.out _⟩
                case measure => simp [intOf]; omega
              | true =>
                go_wp2_with fail
                go_quiet (fail)
                go_wp2_with fail
                go_roundw
                case rel => exact ⟨j + 1, by omega, by go_num, by rw [HTJ.out]; simp, HR3.out.below (below_drewN (Below.refl _ _) _), below_drewN HB3.out _⟩
                case measure => simp [intOf]; omega
        · have hlt3' : ¬ (j : Int) < (nl : Int) := by omega
          obtain rfl : j = nl := by omega
          have HFN : Hid ((s.done.take (n + 1)).any FH = (b1 || (ru.wrote.take j).any fun item => decide (r.began < ru.ended) && mineF item)) := by show _ = _; rw [HTK.out, HFU.out, ← HNL.out, List.take_length]
          go_wp2_with fail
          go_roundw
          case rel => exact ⟨n + 1, by omega, by go_num, by rw [HFN.out], HRI.out⟩
          case measure => simp [intOf]; omega
    · have hlt2' : ¬ (n : Int) < (s.done.length : Int) := by omega
      obtain rfl : n = s.done.length := by omega
      rw [List.take_length, ← HHK.out]
      go_wp2_with fail
      exact HK.out _ _ _ _ _ _ _ _ _ _ _ _ _ _ _ _ _ _ _ _ _ _ _ _ _ _ _ _ _ _ _ _ _ _ _ _ _ _ _ _ _ _ _ _ _ _ _ _ _ _ _ _ _ HRW.out
end Go.Proofs.YtccjognnehoodagGreatDoor

namespace Go.Proofs.YtccjognnehoodagGreatDoor
open Go.RowKit

theorem infoDealK : (Tryz.prog.info? 50).map (fun i => (i.zero, i.size, i.bytes)) = some (some (.agg #[.int .i64 0, .int .i64 0, .int .i64 0, .slice none 0 0, .slice none 0 0]), 5, 72) := by kernel_rfl
theorem infoSeenK : (Tryz.prog.info? 62).map (fun i => (i.zero, i.size, i.bytes)) = some (some (.agg #[.int .i64 0, .int .i64 0, .int .i64 0]), 3, 24) := by kernel_rfl
set_option maxHeartbeats 32000000 in
set_option maxRecDepth 1000000 in
theorem sw_write {K : Act → World → Prop} {Q' : Exit → Act → World → Prop} {c0 c2 c3 c4 c6 c7 c12 c13 c14 c15 c16 c17 c18 c19 c20 c21 c22 c23 c24 c25 c26 c27 c28 c29 c30 c31 c32 c33 c34 c35 c36 c37 c38 c39 c40 c41 c42 c43 c44 c45 c46 c47 c48 c49 c50 c51 c53 c54 c55 c56 c57 c58 c59 c60 c61 c62 c63 c64 c65 c66 c67 c68 c69 c70 c71 c72 c73 c74 c75 c76 c77 c78 c79 c80 c81 c82 c83 c84 c85 c86 c87 c88 c89 c90 c91 c92 c93 c94 c95 c96 c97 c98 c99 c100 c101 c102 c103 c104 c105 c106 c107 c108 c109 c110 c111 c112 c113 c114 c115 c116 c117 c118 c119 c120 c121 c122 c123 c124 c125 c126 c127 c128 c129 c130 c131 c132 c133 c134 c135 c136 c137 c138 c139 c140 c141 c142 c143 c144 c145 c146 c147 c148 c149 c150 c151 c152 c153 c154 c155 c156 c157 c158 c159 c160 c161 c162 c163 c164 c165 c166 c167 c168 c169 c170 c171 c172 c173 c174 c175 c176 c177 c178 c179 c180 c181 c182 c183 c184 c185 c186 c187 c188 c189 c190 c191 c192 c193 c194 c195 c196 c197 c198 c199 c200 c201 c202 c203 c204 c205 c206 c207 c208 c209 c210 c211 c212 c213 c214 c215 c216 c217 c218 c219 c220 c221 c222 c223 c224 c225 c226 c227 c228 c229 c230 c231 c232 c233 : Value} {w : World} {s : Kst} {at_ : Int} {dt : Nat} {c1 : KLay} {Q D : Nat} {i : Int} {r : Dl} {ads adw add : Option Addr} {ns cps nw cpw cpd : Nat} {kind : Int} {adl : Option Addr} {nlk cpl : Nat} (V : World) (hR : Rnd w V s at_ dt c1 Q D ((dt : Int), 2, i) r (.slice ads ns cps) (.slice adw nw cpw) (.slice add s.done.length cpd)) (hlen : r.seen.length = ns ∧ r.wrote.length = nw ∧ ns ≤ 40 ∧ nw ≤ 40)
    (hK : ∀ (u12 u13 u14 u15 u16 u17 u18 u19 u20 u21 u53 u54 u55 u56 u57 u58 u59 u60 u61 u62 u63 u64 u65 u66 u67 u68 u69 u70 u71 u72 u73 u74 u75 u76 u77 u78 u79 u80 u81 u82 u83 u84 u85 u86 u87 u88 u89 u90 u91 u92 u93 u94 u95 u96 u97 u98 u99 u100 u101 u102 u103 u104 u105 u106 u107 u108 u109 u110 u111 u112 u113 u114 u115 u116 u117 u118 u119 u120 u121 u122 u123 u124 u125 u126 u127 u128 u129 u130 u131 u132 u133 u134 u135 u136 u137 u138 u139 u140 u141 u142 u143 u144 u145 u146 u147 u148 u149 u150 u151 u152 u153 u154 u155 u156 u157 u158 u159 u160 u161 u162 u163 u164 u165 u166 u167 u168 u169 u170 u171 u172 u173 u174 u175 u176 u177 u178 u179 u180 u181 u182 u183 u184 u185 u186 u187 u188 u189 u190 u191 u192 u193 u194 u195 u196 u197 u198 u199 u200 u201 u202 u203 u204 u205 u206 u207 u208 u209 u210 u211 u212 u213 u214 u215 u216 u217 u218 u219 u220 u221 u222 u223 u224 u225 u226 u227 u228 : Value) (X : World) (s' : Kst) (b' e' : Int) (sa wa da : Option Addr) (sn sc wn wc dn dc : Nat), Ready w X s' c1 Q D dt (dt : Int) b' e' (.slice sa sn sc) (.slice wa wn wc) (.slice da dn dc) → s' = { s with of := setF s.of (dt : Int) { r with wrote := r.wrote ++ [i] }, beg := setF s.beg (dt : Int) true, done := s.done } → K ⟨#[c0, .int .i64 kind, c2, c3, c4, .slice da dn dc, c6, c7, .slice adl nlk cpl, .int .i64 at_, .pointer (some ⟨Q, 0, none⟩), .pointer (some ⟨D, 0, none⟩), u12, u13, u14, u15, u16, u17, u18, u19, u20, u21, c22, c23, c24, c25, c26, c27, c28, c29, c30, c31, c32, c33, c34, c35, c36, c37, c38, c39, c40, c41, c42, c43, c44, c45, c46, c47, c48, c49, c50, c51, .int .i64 2, u53, u54, u55, u56, u57, u58, u59, u60, u61, u62, u63, u64, u65, u66, u67, u68, u69, u70, u71, u72, u73, u74, u75, u76, u77, u78, u79, u80, u81, u82, u83, u84, u85, u86, u87, u88, u89, u90, u91, u92, u93, u94, u95, u96, u97, u98, u99, u100, u101, u102, u103, u104, u105, u106, u107, u108, u109, u110, u111, u112, u113, u114, u115, u116, u117, u118, u119, u120, u121, u122, u123, u124, u125, u126, u127, u128, u129, u130, u131, u132, u133, u134, u135, u136, u137, u138, u139, u140, u141, u142, u143, u144, u145, u146, u147, u148, u149, u150, u151, u152, u153, u154, u155, u156, u157, u158, u159, u160, u161, u162, u163, u164, u165, u166, u167, u168, u169, u170, u171, u172, u173, u174, u175, u176, u177, u178, u179, u180, u181, u182, u183, u184, u185, u186, u187, u188, u189, u190, u191, u192, u193, u194, u195, u196, u197, u198, u199, u200, u201, u202, u203, u204, u205, u206, u207, u208, u209, u210, u211, u212, u213, u214, u215, u216, u217, u218, u219, u220, u221, u222, u223, u224, u225, u226, u227, u228, c229, c230, c231, c232, c233], []⟩ X) :
    Code.wp Tryz.prog ((Tryz.f7.body.bind (blkOf 2)).getD .skip) (Exit.then K Q') ⟨#[c0, .int .i64 kind, c2, c3, c4, .slice add s.done.length cpd, c6, c7, .slice adl nlk cpl, .int .i64 at_, .pointer (some ⟨Q, 0, none⟩), .pointer (some ⟨D, 0, none⟩), c12, c13, c14, c15, c16, c17, c18, c19, c20, c21, c22, c23, c24, c25, c26, c27, c28, c29, c30, c31, c32, c33, c34, c35, c36, c37, c38, c39, c40, c41, c42, c43, c44, c45, c46, c47, c48, c49, c50, c51, .int .i64 2, c53, c54, c55, c56, c57, c58, c59, c60, c61, c62, c63, c64, c65, c66, c67, c68, c69, c70, c71, c72, c73, c74, c75, c76, c77, c78, c79, c80, c81, c82, c83, c84, c85, c86, c87, c88, c89, c90, c91, c92, c93, c94, c95, c96, c97, c98, c99, c100, c101, c102, c103, c104, c105, c106, c107, c108, c109, c110, c111, c112, c113, c114, c115, c116, c117, c118, c119, c120, c121, c122, c123, c124, c125, c126, c127, c128, c129, c130, c131, c132, c133, c134, c135, c136, c137, c138, c139, c140, c141, c142, c143, c144, c145, c146, c147, c148, c149, c150, c151, c152, c153, c154, c155, c156, c157, c158, c159, c160, c161, c162, c163, c164, c165, c166, c167, c168, c169, c170, c171, c172, c173, c174, c175, c176, c177, c178, c179, c180, c181, c182, c183, c184, c185, c186, c187, c188, c189, c190, c191, c192, c193, c194, c195, c196, c197, c198, c199, c200, c201, c202, c203, c204, c205, c206, c207, c208, c209, c210, c211, c212, c213, c214, c215, c216, c217, c218, c219, c220, c221, c222, c223, c224, c225, c226, c227, c228, c229, c230, c231, c232, c233], []⟩ V := by
  conv => arg 2; whnf
  have HRN := hid_r hR
  have HLEN := hid_r hlen
  have HK := hid_r hK
  have hns40 := hlen.2.2.1
  have hnw40 := hlen.2.2.2
  obtain ⟨d0, d1, d2, d3, d4⟩ := hR.dl.cells
  obtain ⟨p0, p1, p2⟩ := hR.box
  simp only at p0 p1 p2
  have hDl : D < V.heap.size := hR.dl.lt
  obtain ⟨j0, hj, hjz0, hjs0, hjy0⟩ := info_parts infoInt
  have HJ : Hid (Tryz.prog.info? 3 = some j0 ∧ j0.zero = some (.int .i64 0) ∧ j0.size = 1 ∧ j0.bytes = 8) := ⟨hj, hjz0, hjs0, hjy0⟩
  have HRW : Hid (V.ownsRow 0 3 1 (.slice adw nw cpw) nw (r.wrote.map (Value.int .i64))) := by have := HRN.out.wroteR; rw [HLEN.out.2.1] at this; exact this
  have HPT : Hid (∀ (v2 : Value) (w2 : World) (ob : Obj), w2.ownsRow 0 3 1 v2 (nw + 1) (r.wrote.map (Value.int .i64) ++ [.int .i64 i]) → (V.alloc ob).grownBy w2 (Value.slice adw nw cpw).ownBlock → (∀ j, v2.ownBlock = some j → (Value.slice adw nw cpw).ownBlock = some j ∨ (V.alloc ob).heap.size ≤ j) → w2.cell? ⟨D, 4, none⟩ = some (.slice adw nw cpw) ∧ w2.frozen? ⟨D, 4, none⟩ = false ∧ Ready w (w2.setCell ⟨D, 4, none⟩ v2) { s with of := setF s.of (dt : Int) { r with wrote := r.wrote ++ [i] }, beg := setF s.beg (dt : Int) true, done := s.done } c1 Q D dt (dt : Int) r.began r.ended (.slice ads ns cps) v2 (.slice add s.done.length cpd)) := fun v2 w2 ob g1 g2 g3 => (HRN.out.wrote rfl (((Turns.refl (fun j => (Value.slice adw nw cpw).ownBlock = some j) V).alloc ob).grown g2 fun j hj => .inl hj) (by rw [HLEN.out.2.1]; exact g1) fun j hj => (g3 j hj).elim .inl fun e => .inr (by simp at e; omega))
  clear hR hlen hK hj hjz0 hjs0 hjy0
  go_wp2_with (at_builtin; refine wpList_append_apart _ rfl (.tmp 110) (.tmp 113) 25 rfl 0 3 j0 (.int .i64 0) 1 8 Tryz.underlying25 HJ.out.1 HJ.out.2.1 HJ.out.2.2.1 HJ.out.2.2.2 rfl (by decide) (.slice adw nw cpw) nw (r.wrote.map (Value.int .i64)) rfl (HRW.out.alloc _) ⟨V.heap.size, 0, none⟩ 1 1 [.int .i64 i] rfl rfl (cell_one_new _ _ _) (by simp [Value.oneCell']) (by unfold maxLen; omega) (by omega) (Nat.zero_le _) ?_; intro v2 w2 hown2 hgr2 hap2; obtain ⟨g0, g1, g2⟩ := HPT.out v2 w2 _ hown2 hgr2 hap2; clear hap2 hgr2; obtain ⟨ad6, c6', rfl, -⟩ := own_slice3 hown2; have HG2 := hid_r g2; clear g2 hown2)
  exact HK.out _ _ _ _ _ _ _ _ _ _ _ _ _ _ _ _ _ _ _ _ _ _ _ _ _ _ _ _ _ _ _ _ _ _ _ _ _ _ _ _ _ _ _ _ _ _ _ _ _ _ _ _ _ _ _ _ _ _ _ _ _ _ _ _ _ _ _ _ _ _ _ _ _ _ _ _ _ _ _ _ _ _ _ _ _ _ _ _ _ _ _ _ _ _ _ _ _ _ _ _ _ _ _ _ _ _ _ _ _ _ _ _ _ _ _ _ _ _ _ _ _ _ _ _ _ _ _ _ _ _ _ _ _ _ _ _ _ _ _ _ _ _ _ _ _ _ _ _ _ _ _ _ _ _ _ _ _ _ _ _ _ _ _ _ _ _ _ _ _ _ _ _ _ _ _ _ _ _ _ _ _ _ _ _ _ _ _ _ _ _ _ _ _ _ _ _ _ _ _ HG2.out rfl
set_option maxHeartbeats 32000000 in
set_option maxRecDepth 1000000 in
theorem sw_abort {K : Act → World → Prop} {Q' : Exit → Act → World → Prop} {c0 c2 c3 c4 c6 c7 c12 c13 c14 c15 c16 c17 c18 c19 c20 c21 c22 c23 c24 c25 c26 c27 c28 c29 c30 c31 c32 c33 c34 c35 c36 c37 c38 c39 c40 c41 c42 c43 c44 c45 c46 c47 c48 c49 c50 c51 c53 c54 c55 c56 c57 c58 c59 c60 c61 c62 c63 c64 c65 c66 c67 c68 c69 c70 c71 c72 c73 c74 c75 c76 c77 c78 c79 c80 c81 c82 c83 c84 c85 c86 c87 c88 c89 c90 c91 c92 c93 c94 c95 c96 c97 c98 c99 c100 c101 c102 c103 c104 c105 c106 c107 c108 c109 c110 c111 c112 c113 c114 c115 c116 c117 c118 c119 c120 c121 c122 c123 c124 c125 c126 c127 c128 c129 c130 c131 c132 c133 c134 c135 c136 c137 c138 c139 c140 c141 c142 c143 c144 c145 c146 c147 c148 c149 c150 c151 c152 c153 c154 c155 c156 c157 c158 c159 c160 c161 c162 c163 c164 c165 c166 c167 c168 c169 c170 c171 c172 c173 c174 c175 c176 c177 c178 c179 c180 c181 c182 c183 c184 c185 c186 c187 c188 c189 c190 c191 c192 c193 c194 c195 c196 c197 c198 c199 c200 c201 c202 c203 c204 c205 c206 c207 c208 c209 c210 c211 c212 c213 c214 c215 c216 c217 c218 c219 c220 c221 c222 c223 c224 c225 c226 c227 c228 c229 c230 c231 c232 c233 : Value} {w : World} {s : Kst} {at_ : Int} {dt : Nat} {c1 : KLay} {Q D : Nat} {i : Int} {r : Dl} {ads adw add : Option Addr} {ns cps nw cpw cpd : Nat} {kind : Int} {adl : Option Addr} {nlk cpl : Nat} (V : World) (hR : Rnd w V s at_ dt c1 Q D ((dt : Int), 4, i) r (.slice ads ns cps) (.slice adw nw cpw) (.slice add s.done.length cpd)) (hlen : r.seen.length = ns ∧ r.wrote.length = nw ∧ ns ≤ 40 ∧ nw ≤ 40)
    (hK : ∀ (u12 u13 u14 u15 u16 u17 u18 u19 u20 u21 u53 u54 u55 u56 u57 u58 u59 u60 u61 u62 u63 u64 u65 u66 u67 u68 u69 u70 u71 u72 u73 u74 u75 u76 u77 u78 u79 u80 u81 u82 u83 u84 u85 u86 u87 u88 u89 u90 u91 u92 u93 u94 u95 u96 u97 u98 u99 u100 u101 u102 u103 u104 u105 u106 u107 u108 u109 u110 u111 u112 u113 u114 u115 u116 u117 u118 u119 u120 u121 u122 u123 u124 u125 u126 u127 u128 u129 u130 u131 u132 u133 u134 u135 u136 u137 u138 u139 u140 u141 u142 u143 u144 u145 u146 u147 u148 u149 u150 u151 u152 u153 u154 u155 u156 u157 u158 u159 u160 u161 u162 u163 u164 u165 u166 u167 u168 u169 u170 u171 u172 u173 u174 u175 u176 u177 u178 u179 u180 u181 u182 u183 u184 u185 u186 u187 u188 u189 u190 u191 u192 u193 u194 u195 u196 u197 u198 u199 u200 u201 u202 u203 u204 u205 u206 u207 u208 u209 u210 u211 u212 u213 u214 u215 u216 u217 u218 u219 u220 u221 u222 u223 u224 u225 u226 u227 u228 : Value) (X : World) (s' : Kst) (b' e' : Int) (sa wa da : Option Addr) (sn sc wn wc dn dc : Nat), Ready w X s' c1 Q D dt (dt : Int) b' e' (.slice sa sn sc) (.slice wa wn wc) (.slice da dn dc) → s' = { s with of := setF s.of (dt : Int) r, beg := setF s.beg (dt : Int) true, done := s.done } → K ⟨#[c0, .int .i64 kind, c2, c3, c4, .slice da dn dc, c6, c7, .slice adl nlk cpl, .int .i64 at_, .pointer (some ⟨Q, 0, none⟩), .pointer (some ⟨D, 0, none⟩), u12, u13, u14, u15, u16, u17, u18, u19, u20, u21, c22, c23, c24, c25, c26, c27, c28, c29, c30, c31, c32, c33, c34, c35, c36, c37, c38, c39, c40, c41, c42, c43, c44, c45, c46, c47, c48, c49, c50, c51, .int .i64 4, u53, u54, u55, u56, u57, u58, u59, u60, u61, u62, u63, u64, u65, u66, u67, u68, u69, u70, u71, u72, u73, u74, u75, u76, u77, u78, u79, u80, u81, u82, u83, u84, u85, u86, u87, u88, u89, u90, u91, u92, u93, u94, u95, u96, u97, u98, u99, u100, u101, u102, u103, u104, u105, u106, u107, u108, u109, u110, u111, u112, u113, u114, u115, u116, u117, u118, u119, u120, u121, u122, u123, u124, u125, u126, u127, u128, u129, u130, u131, u132, u133, u134, u135, u136, u137, u138, u139, u140, u141, u142, u143, u144, u145, u146, u147, u148, u149, u150, u151, u152, u153, u154, u155, u156, u157, u158, u159, u160, u161, u162, u163, u164, u165, u166, u167, u168, u169, u170, u171, u172, u173, u174, u175, u176, u177, u178, u179, u180, u181, u182, u183, u184, u185, u186, u187, u188, u189, u190, u191, u192, u193, u194, u195, u196, u197, u198, u199, u200, u201, u202, u203, u204, u205, u206, u207, u208, u209, u210, u211, u212, u213, u214, u215, u216, u217, u218, u219, u220, u221, u222, u223, u224, u225, u226, u227, u228, c229, c230, c231, c232, c233], []⟩ X) :
    Code.wp Tryz.prog ((Tryz.f7.body.bind (blkOf 2)).getD .skip) (Exit.then K Q') ⟨#[c0, .int .i64 kind, c2, c3, c4, .slice add s.done.length cpd, c6, c7, .slice adl nlk cpl, .int .i64 at_, .pointer (some ⟨Q, 0, none⟩), .pointer (some ⟨D, 0, none⟩), c12, c13, c14, c15, c16, c17, c18, c19, c20, c21, c22, c23, c24, c25, c26, c27, c28, c29, c30, c31, c32, c33, c34, c35, c36, c37, c38, c39, c40, c41, c42, c43, c44, c45, c46, c47, c48, c49, c50, c51, .int .i64 4, c53, c54, c55, c56, c57, c58, c59, c60, c61, c62, c63, c64, c65, c66, c67, c68, c69, c70, c71, c72, c73, c74, c75, c76, c77, c78, c79, c80, c81, c82, c83, c84, c85, c86, c87, c88, c89, c90, c91, c92, c93, c94, c95, c96, c97, c98, c99, c100, c101, c102, c103, c104, c105, c106, c107, c108, c109, c110, c111, c112, c113, c114, c115, c116, c117, c118, c119, c120, c121, c122, c123, c124, c125, c126, c127, c128, c129, c130, c131, c132, c133, c134, c135, c136, c137, c138, c139, c140, c141, c142, c143, c144, c145, c146, c147, c148, c149, c150, c151, c152, c153, c154, c155, c156, c157, c158, c159, c160, c161, c162, c163, c164, c165, c166, c167, c168, c169, c170, c171, c172, c173, c174, c175, c176, c177, c178, c179, c180, c181, c182, c183, c184, c185, c186, c187, c188, c189, c190, c191, c192, c193, c194, c195, c196, c197, c198, c199, c200, c201, c202, c203, c204, c205, c206, c207, c208, c209, c210, c211, c212, c213, c214, c215, c216, c217, c218, c219, c220, c221, c222, c223, c224, c225, c226, c227, c228, c229, c230, c231, c232, c233], []⟩ V := by
  conv => arg 2; whnf
  have HRN := hid_r hR
  have HLEN := hid_r hlen
  have HK := hid_r hK
  have hns40 := hlen.2.2.1
  have hnw40 := hlen.2.2.2
  obtain ⟨d0, d1, d2, d3, d4⟩ := hR.dl.cells
  obtain ⟨p0, p1, p2⟩ := hR.box
  simp only at p0 p1 p2
  have hDl : D < V.heap.size := hR.dl.lt
  have HG2 := hid_r (HRN.out.stays rfl)
  clear hR hlen hK
  go_wp2_with fail
  exact HK.out _ _ _ _ _ _ _ _ _ _ _ _ _ _ _ _ _ _ _ _ _ _ _ _ _ _ _ _ _ _ _ _ _ _ _ _ _ _ _ _ _ _ _ _ _ _ _ _ _ _ _ _ _ _ _ _ _ _ _ _ _ _ _ _ _ _ _ _ _ _ _ _ _ _ _ _ _ _ _ _ _ _ _ _ _ _ _ _ _ _ _ _ _ _ _ _ _ _ _ _ _ _ _ _ _ _ _ _ _ _ _ _ _ _ _ _ _ _ _ _ _ _ _ _ _ _ _ _ _ _ _ _ _ _ _ _ _ _ _ _ _ _ _ _ _ _ _ _ _ _ _ _ _ _ _ _ _ _ _ _ _ _ _ _ _ _ _ _ _ _ _ _ _ _ _ _ _ _ _ _ _ _ _ _ _ _ _ _ _ _ _ _ _ _ _ _ _ _ _ HG2.out rfl
set_option maxHeartbeats 32000000 in
set_option maxRecDepth 1000000 in
theorem sw_read1 {K : Act → World → Prop} {Q' : Exit → Act → World → Prop} {c0 c2 c3 c4 c6 c7 c12 c13 c14 c15 c16 c17 c18 c19 c20 c21 c22 c23 c24 c25 c26 c27 c28 c29 c30 c31 c32 c33 c34 c35 c36 c37 c38 c39 c40 c41 c42 c43 c44 c45 c46 c47 c48 c49 c50 c51 c53 c54 c55 c56 c57 c58 c59 c60 c61 c62 c63 c64 c65 c66 c67 c68 c69 c70 c71 c72 c73 c74 c75 c76 c77 c78 c79 c80 c81 c82 c83 c84 c85 c86 c87 c88 c89 c90 c91 c92 c93 c94 c95 c96 c97 c98 c99 c100 c101 c102 c103 c104 c105 c106 c107 c108 c109 c110 c111 c112 c113 c114 c115 c116 c117 c118 c119 c120 c121 c122 c123 c124 c125 c126 c127 c128 c129 c130 c131 c132 c133 c134 c135 c136 c137 c138 c139 c140 c141 c142 c143 c144 c145 c146 c147 c148 c149 c150 c151 c152 c153 c154 c155 c156 c157 c158 c159 c160 c161 c162 c163 c164 c165 c166 c167 c168 c169 c170 c171 c172 c173 c174 c175 c176 c177 c178 c179 c180 c181 c182 c183 c184 c185 c186 c187 c188 c189 c190 c191 c192 c193 c194 c195 c196 c197 c198 c199 c200 c201 c202 c203 c204 c205 c206 c207 c208 c209 c210 c211 c212 c213 c214 c215 c216 c217 c218 c219 c220 c221 c222 c223 c224 c225 c226 c227 c228 c229 c230 c231 c232 c233 : Value} {w : World} {s : Kst} {at_ : Int} {dt : Nat} {c1 : KLay} {Q D : Nat} {i : Int} {r : Dl} {ads adw add : Option Addr} {ns cps nw cpw cpd : Nat} {adl : Option Addr} {nlk cpl : Nat} (V : World) (hR : Rnd w V s at_ dt c1 Q D ((dt : Int), 1, i) r (.slice ads ns cps) (.slice adw nw cpw) (.slice add s.done.length cpd)) (hlen : r.seen.length = ns ∧ r.wrote.length = nw ∧ ns ≤ 40 ∧ nw ≤ 40) (hDS : IsDeals V (.slice add s.done.length cpd) s.done s.of) (hdn6 : s.done.length ≤ 6)
    (hK : ∀ (u12 u13 u14 u15 u16 u17 u18 u19 u20 u21 u53 u54 u55 u56 u57 u58 u59 u60 u61 u62 u63 u64 u65 u66 u67 u68 u69 u70 u71 u72 u73 u74 u75 u76 u77 u78 u79 u80 u81 u82 u83 u84 u85 u86 u87 u88 u89 u90 u91 u92 u93 u94 u95 u96 u97 u98 u99 u100 u101 u102 u103 u104 u105 u106 u107 u108 u109 u110 u111 u112 u113 u114 u115 u116 u117 u118 u119 u120 u121 u122 u123 u124 u125 u126 u127 u128 u129 u130 u131 u132 u133 u134 u135 u136 u137 u138 u139 u140 u141 u142 u143 u144 u145 u146 u147 u148 u149 u150 u151 u152 u153 u154 u155 u156 u157 u158 u159 u160 u161 u162 u163 u164 u165 u166 u167 u168 u169 u170 u171 u172 u173 u174 u175 u176 u177 u178 u179 u180 u181 u182 u183 u184 u185 u186 u187 u188 u189 u190 u191 u192 u193 u194 u195 u196 u197 u198 u199 u200 u201 u202 u203 u204 u205 u206 u207 u208 u209 u210 u211 u212 u213 u214 u215 u216 u217 u218 u219 u220 u221 u222 u223 u224 u225 u226 u227 u228 : Value) (X : World) (s' : Kst) (b' e' : Int) (sa wa da : Option Addr) (sn sc wn wc dn dc : Nat), Ready w X s' c1 Q D dt (dt : Int) b' e' (.slice sa sn sc) (.slice wa wn wc) (.slice da dn dc) → s' = { s with of := setF s.of (dt : Int) { r with seen := r.seen ++ [((dt : Int), i, (if inB r.wrote i = true then (dt : Int) else whoK s.done s.of i at_ 0))] }, beg := setF s.beg (dt : Int) true, done := s.done } → K ⟨#[c0, .int .i64 1, c2, c3, c4, .slice da dn dc, c6, c7, .slice adl nlk cpl, .int .i64 at_, .pointer (some ⟨Q, 0, none⟩), .pointer (some ⟨D, 0, none⟩), u12, u13, u14, u15, u16, u17, u18, u19, u20, u21, c22, c23, c24, c25, c26, c27, c28, c29, c30, c31, c32, c33, c34, c35, c36, c37, c38, c39, c40, c41, c42, c43, c44, c45, c46, c47, c48, c49, c50, c51, .int .i64 1, u53, u54, u55, u56, u57, u58, u59, u60, u61, u62, u63, u64, u65, u66, u67, u68, u69, u70, u71, u72, u73, u74, u75, u76, u77, u78, u79, u80, u81, u82, u83, u84, u85, u86, u87, u88, u89, u90, u91, u92, u93, u94, u95, u96, u97, u98, u99, u100, u101, u102, u103, u104, u105, u106, u107, u108, u109, u110, u111, u112, u113, u114, u115, u116, u117, u118, u119, u120, u121, u122, u123, u124, u125, u126, u127, u128, u129, u130, u131, u132, u133, u134, u135, u136, u137, u138, u139, u140, u141, u142, u143, u144, u145, u146, u147, u148, u149, u150, u151, u152, u153, u154, u155, u156, u157, u158, u159, u160, u161, u162, u163, u164, u165, u166, u167, u168, u169, u170, u171, u172, u173, u174, u175, u176, u177, u178, u179, u180, u181, u182, u183, u184, u185, u186, u187, u188, u189, u190, u191, u192, u193, u194, u195, u196, u197, u198, u199, u200, u201, u202, u203, u204, u205, u206, u207, u208, u209, u210, u211, u212, u213, u214, u215, u216, u217, u218, u219, u220, u221, u222, u223, u224, u225, u226, u227, u228, c229, c230, c231, c232, c233], []⟩ X) :
    Code.wp Tryz.prog ((Tryz.f7.body.bind (blkOf 2)).getD .skip) (Exit.then K Q') ⟨#[c0, .int .i64 1, c2, c3, c4, .slice add s.done.length cpd, c6, c7, .slice adl nlk cpl, .int .i64 at_, .pointer (some ⟨Q, 0, none⟩), .pointer (some ⟨D, 0, none⟩), c12, c13, c14, c15, c16, c17, c18, c19, c20, c21, c22, c23, c24, c25, c26, c27, c28, c29, c30, c31, c32, c33, c34, c35, c36, c37, c38, c39, c40, c41, c42, c43, c44, c45, c46, c47, c48, c49, c50, c51, .int .i64 1, c53, c54, c55, c56, c57, c58, c59, c60, c61, c62, c63, c64, c65, c66, c67, c68, c69, c70, c71, c72, c73, c74, c75, c76, c77, c78, c79, c80, c81, c82, c83, c84, c85, c86, c87, c88, c89, c90, c91, c92, c93, c94, c95, c96, c97, c98, c99, c100, c101, c102, c103, c104, c105, c106, c107, c108, c109, c110, c111, c112, c113, c114, c115, c116, c117, c118, c119, c120, c121, c122, c123, c124, c125, c126, c127, c128, c129, c130, c131, c132, c133, c134, c135, c136, c137, c138, c139, c140, c141, c142, c143, c144, c145, c146, c147, c148, c149, c150, c151, c152, c153, c154, c155, c156, c157, c158, c159, c160, c161, c162, c163, c164, c165, c166, c167, c168, c169, c170, c171, c172, c173, c174, c175, c176, c177, c178, c179, c180, c181, c182, c183, c184, c185, c186, c187, c188, c189, c190, c191, c192, c193, c194, c195, c196, c197, c198, c199, c200, c201, c202, c203, c204, c205, c206, c207, c208, c209, c210, c211, c212, c213, c214, c215, c216, c217, c218, c219, c220, c221, c222, c223, c224, c225, c226, c227, c228, c229, c230, c231, c232, c233], []⟩ V := by
  conv => arg 2; whnf
  have HRN := hid_r hR
  have HLEN := hid_r hlen
  have HK := hid_r hK
  have hns40 := hlen.2.2.1
  have hnw40 := hlen.2.2.2
  obtain ⟨d0, d1, d2, d3, d4⟩ := hR.dl.cells
  obtain ⟨p0, p1, p2⟩ := hR.box
  simp only at p0 p1 p2
  have hDl : D < V.heap.size := hR.dl.lt
  obtain ⟨i0, hi, hz0, hs0, hy0⟩ := info_parts infoSeenK
  have HI : Hid (Tryz.prog.info? 62 = some i0 ∧ i0.zero = some (.agg #[.int .i64 0, .int .i64 0, .int .i64 0]) ∧ i0.size = 3 ∧ i0.bytes = 24) := ⟨hi, hz0, hs0, hy0⟩
  have HIN : Hid (Calls Tryz.prog 21 #[.slice adw nw cpw, .int .i64 i] V fun e w' => e = .returned (.bool (inB r.wrote i)) ∧ w' = V) := in_any r.wrote (.slice adw nw cpw) i V (isInts_own HRN.out.wroteR rfl) (by rw [HLEN.out.2.1]; omega)
  have HWH : Hid (Calls Tryz.prog 22 #[.slice add s.done.length cpd, .int .i64 i, .int .i64 at_, .int .i64 0] V fun e w' => e = .returned (.int .i64 (whoK s.done s.of i at_ 0)) ∧ w' = V) := who_any s.done s.of (.slice add s.done.length cpd) i at_ 0 V hDS (by omega)
  have HRW : Hid (V.ownsRow 0 62 3 (.slice ads ns cps) ns (flat r.seen)) := by have := HRN.out.seenR; rw [HLEN.out.1] at this; exact this
  have HPT : Hid (∀ (fr : Int) (v2 : Value) (w2 : World) (ob : Obj), w2.ownsRow 0 62 3 v2 (ns + 1) (flat r.seen ++ flat [((dt : Int), i, fr)]) → (V.alloc ob).grownBy w2 (Value.slice ads ns cps).ownBlock → (∀ j, v2.ownBlock = some j → (Value.slice ads ns cps).ownBlock = some j ∨ (V.alloc ob).heap.size ≤ j) → w2.cell? ⟨D, 3, none⟩ = some (.slice ads ns cps) ∧ w2.frozen? ⟨D, 3, none⟩ = false ∧ Ready w (w2.setCell ⟨D, 3, none⟩ v2) { s with of := setF s.of (dt : Int) { r with seen := r.seen ++ [((dt : Int), i, fr)] }, beg := setF s.beg (dt : Int) true, done := s.done } c1 Q D dt (dt : Int) r.began r.ended v2 (.slice adw nw cpw) (.slice add s.done.length cpd)) := fun fr v2 w2 ob g1 g2 g3 => (HRN.out.saw rfl (((Turns.refl (fun j => (Value.slice ads ns cps).ownBlock = some j) V).alloc ob).grown g2 fun j hj => .inl hj) (by rw [HLEN.out.1]; exact g1) fun j hj => (g3 j hj).elim .inl fun e => .inr (by simp at e; omega))
  obtain ⟨fr, hfr⟩ : ∃ fr, whoK s.done s.of i at_ 0 = fr := ⟨_, rfl⟩
  rw [hfr] at HWH
  have HFR := hid_r hfr
  clear hR hlen hK hi hz0 hs0 hy0 hfr hDS
  cases hown : inB r.wrote i with
  | true =>
    rw [hown] at HIN
    have HNX : Hid ({ s with of := setF s.of (dt : Int) { r with seen := r.seen ++ [((dt : Int), i, (dt : Int))] }, beg := setF s.beg (dt : Int) true, done := s.done } = { s with of := setF s.of (dt : Int) { r with seen := r.seen ++ [((dt : Int), i, (if inB r.wrote i = true then (dt : Int) else whoK s.done s.of i at_ 0))] }, beg := setF s.beg (dt : Int) true, done := s.done }) := by show _ = _; rw [if_pos hown]
    clear hown HWH
    go_wp2_with fail
    refine HIN.out.mono ?_
    rintro e w3 ⟨rfl, hw3⟩
    rw [hw3]
    clear hw3
    go_wp2_with (at_builtin; refine wpList_append_apart _ rfl (.tmp 97) (.tmp 104) 39 rfl 0 62 i0 (.agg #[.int .i64 0, .int .i64 0, .int .i64 0]) 3 24 Tryz.underlying39 HI.out.1 HI.out.2.1 HI.out.2.2.1 HI.out.2.2.2 rfl (by decide) (.slice ads ns cps) ns (flat r.seen) rfl (HRW.out.alloc _) ⟨V.heap.size, 0, none⟩ 1 1 (flat [((dt : Int), i, (dt : Int))]) rfl rfl (seen_new V ((dt : Int), i, (dt : Int)) _) (flat_one _) (by unfold maxLen; omega) (by omega) (Nat.zero_le _) ?_; intro v2 w2 hown2 hgr2 hap2; obtain ⟨g0, g1, g2⟩ := HPT.out (dt : Int) v2 w2 _ hown2 hgr2 hap2; clear hap2 hgr2; obtain ⟨ad6, c6', rfl, -⟩ := own_slice3 hown2; have HG2 := hid_r g2; clear g2 hown2)
    exact HK.out _ _ _ _ _ _ _ _ _ _ _ _ _ _ _ _ _ _ _ _ _ _ _ _ _ _ _ _ _ _ _ _ _ _ _ _ _ _ _ _ _ _ _ _ _ _ _ _ _ _ _ _ _ _ _ _ _ _ _ _ _ _ _ _ _ _ _ _ _ _ _ _ _ _ _ _ _ _ _ _ _ _ _ _ _ _ _ _ _ _ _ _ _ _ _ _ _ _ _ _ _ _ _ _ _ _ _ _ _ _ _ _ _ _ _ _ _ _ _ _ _ _ _ _ _ _ _ _ _ _ _ _ _ _ _ _ _ _ _ _ _ _ _ _ _ _ _ _ _ _ _ _ _ _ _ _ _ _ _ _ _ _ _ _ _ _ _ _ _ _ _ _ _ _ _ _ _ _ _ _ _ _ _ _ _ _ _ _ _ _ _ _ _ _ _ _ _ _ _ HG2.out HNX.out
  | false =>
    rw [hown] at HIN
    have HNX : Hid ({ s with of := setF s.of (dt : Int) { r with seen := r.seen ++ [((dt : Int), i, fr)] }, beg := setF s.beg (dt : Int) true, done := s.done } = { s with of := setF s.of (dt : Int) { r with seen := r.seen ++ [((dt : Int), i, (if inB r.wrote i = true then (dt : Int) else whoK s.done s.of i at_ 0))] }, beg := setF s.beg (dt : Int) true, done := s.done }) := by show _ = _; rw [if_neg (by rw [hown]; decide), HFR.out]
    clear hown
    go_wp2_with fail
    refine HIN.out.mono ?_
    rintro e w3 ⟨rfl, hw3⟩
    rw [hw3]
    clear hw3
    go_wp2_with fail
    refine HWH.out.mono ?_
    rintro e w3 ⟨rfl, hw3⟩
    rw [hw3]
    clear hw3
    go_wp2_with (at_builtin; refine wpList_append_apart _ rfl (.tmp 97) (.tmp 104) 39 rfl 0 62 i0 (.agg #[.int .i64 0, .int .i64 0, .int .i64 0]) 3 24 Tryz.underlying39 HI.out.1 HI.out.2.1 HI.out.2.2.1 HI.out.2.2.2 rfl (by decide) (.slice ads ns cps) ns (flat r.seen) rfl (HRW.out.alloc _) ⟨V.heap.size, 0, none⟩ 1 1 (flat [((dt : Int), i, fr)]) rfl rfl (seen_new V ((dt : Int), i, fr) _) (flat_one _) (by unfold maxLen; omega) (by omega) (Nat.zero_le _) ?_; intro v2 w2 hown2 hgr2 hap2; obtain ⟨g0, g1, g2⟩ := HPT.out fr v2 w2 _ hown2 hgr2 hap2; clear hap2 hgr2; obtain ⟨ad6, c6', rfl, -⟩ := own_slice3 hown2; have HG2 := hid_r g2; clear g2 hown2)
    exact HK.out _ _ _ _ _ _ _ _ _ _ _ _ _ _ _ _ _ _ _ _ _ _ _ _ _ _ _ _ _ _ _ _ _ _ _ _ _ _ _ _ _ _ _ _ _ _ _ _ _ _ _ _ _ _ _ _ _ _ _ _ _ _ _ _ _ _ _ _ _ _ _ _ _ _ _ _ _ _ _ _ _ _ _ _ _ _ _ _ _ _ _ _ _ _ _ _ _ _ _ _ _ _ _ _ _ _ _ _ _ _ _ _ _ _ _ _ _ _ _ _ _ _ _ _ _ _ _ _ _ _ _ _ _ _ _ _ _ _ _ _ _ _ _ _ _ _ _ _ _ _ _ _ _ _ _ _ _ _ _ _ _ _ _ _ _ _ _ _ _ _ _ _ _ _ _ _ _ _ _ _ _ _ _ _ _ _ _ _ _ _ _ _ _ _ _ _ _ _ _ HG2.out HNX.out
set_option maxHeartbeats 32000000 in
set_option maxRecDepth 1000000 in
theorem sw_read2 {K : Act → World → Prop} {Q' : Exit → Act → World → Prop} {c0 c2 c3 c4 c6 c7 c12 c13 c14 c15 c16 c17 c18 c19 c20 c21 c22 c23 c24 c25 c26 c27 c28 c29 c30 c31 c32 c33 c34 c35 c36 c37 c38 c39 c40 c41 c42 c43 c44 c45 c46 c47 c48 c49 c50 c51 c53 c54 c55 c56 c57 c58 c59 c60 c61 c62 c63 c64 c65 c66 c67 c68 c69 c70 c71 c72 c73 c74 c75 c76 c77 c78 c79 c80 c81 c82 c83 c84 c85 c86 c87 c88 c89 c90 c91 c92 c93 c94 c95 c96 c97 c98 c99 c100 c101 c102 c103 c104 c105 c106 c107 c108 c109 c110 c111 c112 c113 c114 c115 c116 c117 c118 c119 c120 c121 c122 c123 c124 c125 c126 c127 c128 c129 c130 c131 c132 c133 c134 c135 c136 c137 c138 c139 c140 c141 c142 c143 c144 c145 c146 c147 c148 c149 c150 c151 c152 c153 c154 c155 c156 c157 c158 c159 c160 c161 c162 c163 c164 c165 c166 c167 c168 c169 c170 c171 c172 c173 c174 c175 c176 c177 c178 c179 c180 c181 c182 c183 c184 c185 c186 c187 c188 c189 c190 c191 c192 c193 c194 c195 c196 c197 c198 c199 c200 c201 c202 c203 c204 c205 c206 c207 c208 c209 c210 c211 c212 c213 c214 c215 c216 c217 c218 c219 c220 c221 c222 c223 c224 c225 c226 c227 c228 c229 c230 c231 c232 c233 : Value} {w : World} {s : Kst} {at_ : Int} {dt : Nat} {c1 : KLay} {Q D : Nat} {i : Int} {r : Dl} {ads adw add : Option Addr} {ns cps nw cpw cpd : Nat} {kind : Int} {adl : Option Addr} {nlk cpl : Nat} (V : World) (hR : Rnd w V s at_ dt c1 Q D ((dt : Int), 1, i) r (.slice ads ns cps) (.slice adw nw cpw) (.slice add s.done.length cpd)) (hlen : r.seen.length = ns ∧ r.wrote.length = nw ∧ ns ≤ 40 ∧ nw ≤ 40) (hDS : IsDeals V (.slice add s.done.length cpd) s.done s.of) (hdn6 : s.done.length ≤ 6) (hk1 : (kind == 1) = false) (hk4 : (kind == 4) = false)
    (hK : ∀ (u12 u13 u14 u15 u16 u17 u18 u19 u20 u21 u53 u54 u55 u56 u57 u58 u59 u60 u61 u62 u63 u64 u65 u66 u67 u68 u69 u70 u71 u72 u73 u74 u75 u76 u77 u78 u79 u80 u81 u82 u83 u84 u85 u86 u87 u88 u89 u90 u91 u92 u93 u94 u95 u96 u97 u98 u99 u100 u101 u102 u103 u104 u105 u106 u107 u108 u109 u110 u111 u112 u113 u114 u115 u116 u117 u118 u119 u120 u121 u122 u123 u124 u125 u126 u127 u128 u129 u130 u131 u132 u133 u134 u135 u136 u137 u138 u139 u140 u141 u142 u143 u144 u145 u146 u147 u148 u149 u150 u151 u152 u153 u154 u155 u156 u157 u158 u159 u160 u161 u162 u163 u164 u165 u166 u167 u168 u169 u170 u171 u172 u173 u174 u175 u176 u177 u178 u179 u180 u181 u182 u183 u184 u185 u186 u187 u188 u189 u190 u191 u192 u193 u194 u195 u196 u197 u198 u199 u200 u201 u202 u203 u204 u205 u206 u207 u208 u209 u210 u211 u212 u213 u214 u215 u216 u217 u218 u219 u220 u221 u222 u223 u224 u225 u226 u227 u228 : Value) (X : World) (s' : Kst) (b' e' : Int) (sa wa da : Option Addr) (sn sc wn wc dn dc : Nat), Ready w X s' c1 Q D dt (dt : Int) b' e' (.slice sa sn sc) (.slice wa wn wc) (.slice da dn dc) → s' = { s with of := setF s.of (dt : Int) { r with seen := r.seen ++ [((dt : Int), i, (if inB r.wrote i = true then (dt : Int) else whoK s.done s.of i r.began 0))] }, beg := setF s.beg (dt : Int) true, done := s.done } → K ⟨#[c0, .int .i64 kind, c2, c3, c4, .slice da dn dc, c6, c7, .slice adl nlk cpl, .int .i64 at_, .pointer (some ⟨Q, 0, none⟩), .pointer (some ⟨D, 0, none⟩), u12, u13, u14, u15, u16, u17, u18, u19, u20, u21, c22, c23, c24, c25, c26, c27, c28, c29, c30, c31, c32, c33, c34, c35, c36, c37, c38, c39, c40, c41, c42, c43, c44, c45, c46, c47, c48, c49, c50, c51, .int .i64 1, u53, u54, u55, u56, u57, u58, u59, u60, u61, u62, u63, u64, u65, u66, u67, u68, u69, u70, u71, u72, u73, u74, u75, u76, u77, u78, u79, u80, u81, u82, u83, u84, u85, u86, u87, u88, u89, u90, u91, u92, u93, u94, u95, u96, u97, u98, u99, u100, u101, u102, u103, u104, u105, u106, u107, u108, u109, u110, u111, u112, u113, u114, u115, u116, u117, u118, u119, u120, u121, u122, u123, u124, u125, u126, u127, u128, u129, u130, u131, u132, u133, u134, u135, u136, u137, u138, u139, u140, u141, u142, u143, u144, u145, u146, u147, u148, u149, u150, u151, u152, u153, u154, u155, u156, u157, u158, u159, u160, u161, u162, u163, u164, u165, u166, u167, u168, u169, u170, u171, u172, u173, u174, u175, u176, u177, u178, u179, u180, u181, u182, u183, u184, u185, u186, u187, u188, u189, u190, u191, u192, u193, u194, u195, u196, u197, u198, u199, u200, u201, u202, u203, u204, u205, u206, u207, u208, u209, u210, u211, u212, u213, u214, u215, u216, u217, u218, u219, u220, u221, u222, u223, u224, u225, u226, u227, u228, c229, c230, c231, c232, c233], []⟩ X) :
    Code.wp Tryz.prog ((Tryz.f7.body.bind (blkOf 2)).getD .skip) (Exit.then K Q') ⟨#[c0, .int .i64 kind, c2, c3, c4, .slice add s.done.length cpd, c6, c7, .slice adl nlk cpl, .int .i64 at_, .pointer (some ⟨Q, 0, none⟩), .pointer (some ⟨D, 0, none⟩), c12, c13, c14, c15, c16, c17, c18, c19, c20, c21, c22, c23, c24, c25, c26, c27, c28, c29, c30, c31, c32, c33, c34, c35, c36, c37, c38, c39, c40, c41, c42, c43, c44, c45, c46, c47, c48, c49, c50, c51, .int .i64 1, c53, c54, c55, c56, c57, c58, c59, c60, c61, c62, c63, c64, c65, c66, c67, c68, c69, c70, c71, c72, c73, c74, c75, c76, c77, c78, c79, c80, c81, c82, c83, c84, c85, c86, c87, c88, c89, c90, c91, c92, c93, c94, c95, c96, c97, c98, c99, c100, c101, c102, c103, c104, c105, c106, c107, c108, c109, c110, c111, c112, c113, c114, c115, c116, c117, c118, c119, c120, c121, c122, c123, c124, c125, c126, c127, c128, c129, c130, c131, c132, c133, c134, c135, c136, c137, c138, c139, c140, c141, c142, c143, c144, c145, c146, c147, c148, c149, c150, c151, c152, c153, c154, c155, c156, c157, c158, c159, c160, c161, c162, c163, c164, c165, c166, c167, c168, c169, c170, c171, c172, c173, c174, c175, c176, c177, c178, c179, c180, c181, c182, c183, c184, c185, c186, c187, c188, c189, c190, c191, c192, c193, c194, c195, c196, c197, c198, c199, c200, c201, c202, c203, c204, c205, c206, c207, c208, c209, c210, c211, c212, c213, c214, c215, c216, c217, c218, c219, c220, c221, c222, c223, c224, c225, c226, c227, c228, c229, c230, c231, c232, c233], []⟩ V := by
  conv => arg 2; whnf
  have HRN := hid_r hR
  have HLEN := hid_r hlen
  have HK := hid_r hK
  have hns40 := hlen.2.2.1
  have hnw40 := hlen.2.2.2
  obtain ⟨d0, d1, d2, d3, d4⟩ := hR.dl.cells
  obtain ⟨p0, p1, p2⟩ := hR.box
  simp only at p0 p1 p2
  have hDl : D < V.heap.size := hR.dl.lt
  obtain ⟨i0, hi, hz0, hs0, hy0⟩ := info_parts infoSeenK
  have HI : Hid (Tryz.prog.info? 62 = some i0 ∧ i0.zero = some (.agg #[.int .i64 0, .int .i64 0, .int .i64 0]) ∧ i0.size = 3 ∧ i0.bytes = 24) := ⟨hi, hz0, hs0, hy0⟩
  have HIN : Hid (Calls Tryz.prog 21 #[.slice adw nw cpw, .int .i64 i] V fun e w' => e = .returned (.bool (inB r.wrote i)) ∧ w' = V) := in_any r.wrote (.slice adw nw cpw) i V (isInts_own HRN.out.wroteR rfl) (by rw [HLEN.out.2.1]; omega)
  have HWH : Hid (Calls Tryz.prog 22 #[.slice add s.done.length cpd, .int .i64 i, .int .i64 r.began, .int .i64 0] V fun e w' => e = .returned (.int .i64 (whoK s.done s.of i r.began 0)) ∧ w' = V) := who_any s.done s.of (.slice add s.done.length cpd) i r.began 0 V hDS (by omega)
  have HRW : Hid (V.ownsRow 0 62 3 (.slice ads ns cps) ns (flat r.seen)) := by have := HRN.out.seenR; rw [HLEN.out.1] at this; exact this
  have HPT : Hid (∀ (fr : Int) (v2 : Value) (w2 : World) (ob : Obj), w2.ownsRow 0 62 3 v2 (ns + 1) (flat r.seen ++ flat [((dt : Int), i, fr)]) → (V.alloc ob).grownBy w2 (Value.slice ads ns cps).ownBlock → (∀ j, v2.ownBlock = some j → (Value.slice ads ns cps).ownBlock = some j ∨ (V.alloc ob).heap.size ≤ j) → w2.cell? ⟨D, 3, none⟩ = some (.slice ads ns cps) ∧ w2.frozen? ⟨D, 3, none⟩ = false ∧ Ready w (w2.setCell ⟨D, 3, none⟩ v2) { s with of := setF s.of (dt : Int) { r with seen := r.seen ++ [((dt : Int), i, fr)] }, beg := setF s.beg (dt : Int) true, done := s.done } c1 Q D dt (dt : Int) r.began r.ended v2 (.slice adw nw cpw) (.slice add s.done.length cpd)) := fun fr v2 w2 ob g1 g2 g3 => (HRN.out.saw rfl (((Turns.refl (fun j => (Value.slice ads ns cps).ownBlock = some j) V).alloc ob).grown g2 fun j hj => .inl hj) (by rw [HLEN.out.1]; exact g1) fun j hj => (g3 j hj).elim .inl fun e => .inr (by simp at e; omega))
  obtain ⟨fr, hfr⟩ : ∃ fr, whoK s.done s.of i r.began 0 = fr := ⟨_, rfl⟩
  rw [hfr] at HWH
  have HFR := hid_r hfr
  clear hR hlen hK hi hz0 hs0 hy0 hfr hDS
  cases hown : inB r.wrote i with
  | true =>
    rw [hown] at HIN
    have HNX : Hid ({ s with of := setF s.of (dt : Int) { r with seen := r.seen ++ [((dt : Int), i, (dt : Int))] }, beg := setF s.beg (dt : Int) true, done := s.done } = { s with of := setF s.of (dt : Int) { r with seen := r.seen ++ [((dt : Int), i, (if inB r.wrote i = true then (dt : Int) else whoK s.done s.of i r.began 0))] }, beg := setF s.beg (dt : Int) true, done := s.done }) := by show _ = _; rw [if_pos hown]
    clear hown HWH
    go_wp2_with fail
    refine HIN.out.mono ?_
    rintro e w3 ⟨rfl, hw3⟩
    rw [hw3]
    clear hw3
    go_wp2_with (at_builtin; refine wpList_append_apart _ rfl (.tmp 97) (.tmp 104) 39 rfl 0 62 i0 (.agg #[.int .i64 0, .int .i64 0, .int .i64 0]) 3 24 Tryz.underlying39 HI.out.1 HI.out.2.1 HI.out.2.2.1 HI.out.2.2.2 rfl (by decide) (.slice ads ns cps) ns (flat r.seen) rfl (HRW.out.alloc _) ⟨V.heap.size, 0, none⟩ 1 1 (flat [((dt : Int), i, (dt : Int))]) rfl rfl (seen_new V ((dt : Int), i, (dt : Int)) _) (flat_one _) (by unfold maxLen; omega) (by omega) (Nat.zero_le _) ?_; intro v2 w2 hown2 hgr2 hap2; obtain ⟨g0, g1, g2⟩ := HPT.out (dt : Int) v2 w2 _ hown2 hgr2 hap2; clear hap2 hgr2; obtain ⟨ad6, c6', rfl, -⟩ := own_slice3 hown2; have HG2 := hid_r g2; clear g2 hown2)
    exact HK.out _ _ _ _ _ _ _ _ _ _ _ _ _ _ _ _ _ _ _ _ _ _ _ _ _ _ _ _ _ _ _ _ _ _ _ _ _ _ _ _ _ _ _ _ _ _ _ _ _ _ _ _ _ _ _ _ _ _ _ _ _ _ _ _ _ _ _ _ _ _ _ _ _ _ _ _ _ _ _ _ _ _ _ _ _ _ _ _ _ _ _ _ _ _ _ _ _ _ _ _ _ _ _ _ _ _ _ _ _ _ _ _ _ _ _ _ _ _ _ _ _ _ _ _ _ _ _ _ _ _ _ _ _ _ _ _ _ _ _ _ _ _ _ _ _ _ _ _ _ _ _ _ _ _ _ _ _ _ _ _ _ _ _ _ _ _ _ _ _ _ _ _ _ _ _ _ _ _ _ _ _ _ _ _ _ _ _ _ _ _ _ _ _ _ _ _ _ _ _ HG2.out HNX.out
  | false =>
    rw [hown] at HIN
    have HNX : Hid ({ s with of := setF s.of (dt : Int) { r with seen := r.seen ++ [((dt : Int), i, fr)] }, beg := setF s.beg (dt : Int) true, done := s.done } = { s with of := setF s.of (dt : Int) { r with seen := r.seen ++ [((dt : Int), i, (if inB r.wrote i = true then (dt : Int) else whoK s.done s.of i r.began 0))] }, beg := setF s.beg (dt : Int) true, done := s.done }) := by show _ = _; rw [if_neg (by rw [hown]; decide), HFR.out]
    clear hown
    go_wp2_with fail
    refine HIN.out.mono ?_
    rintro e w3 ⟨rfl, hw3⟩
    rw [hw3]
    clear hw3
    go_wp2_with fail
    refine HWH.out.mono ?_
    rintro e w3 ⟨rfl, hw3⟩
    rw [hw3]
    clear hw3
    go_wp2_with (at_builtin; refine wpList_append_apart _ rfl (.tmp 97) (.tmp 104) 39 rfl 0 62 i0 (.agg #[.int .i64 0, .int .i64 0, .int .i64 0]) 3 24 Tryz.underlying39 HI.out.1 HI.out.2.1 HI.out.2.2.1 HI.out.2.2.2 rfl (by decide) (.slice ads ns cps) ns (flat r.seen) rfl (HRW.out.alloc _) ⟨V.heap.size, 0, none⟩ 1 1 (flat [((dt : Int), i, fr)]) rfl rfl (seen_new V ((dt : Int), i, fr) _) (flat_one _) (by unfold maxLen; omega) (by omega) (Nat.zero_le _) ?_; intro v2 w2 hown2 hgr2 hap2; obtain ⟨g0, g1, g2⟩ := HPT.out fr v2 w2 _ hown2 hgr2 hap2; clear hap2 hgr2; obtain ⟨ad6, c6', rfl, -⟩ := own_slice3 hown2; have HG2 := hid_r g2; clear g2 hown2)
    exact HK.out _ _ _ _ _ _ _ _ _ _ _ _ _ _ _ _ _ _ _ _ _ _ _ _ _ _ _ _ _ _ _ _ _ _ _ _ _ _ _ _ _ _ _ _ _ _ _ _ _ _ _ _ _ _ _ _ _ _ _ _ _ _ _ _ _ _ _ _ _ _ _ _ _ _ _ _ _ _ _ _ _ _ _ _ _ _ _ _ _ _ _ _ _ _ _ _ _ _ _ _ _ _ _ _ _ _ _ _ _ _ _ _ _ _ _ _ _ _ _ _ _ _ _ _ _ _ _ _ _ _ _ _ _ _ _ _ _ _ _ _ _ _ _ _ _ _ _ _ _ _ _ _ _ _ _ _ _ _ _ _ _ _ _ _ _ _ _ _ _ _ _ _ _ _ _ _ _ _ _ _ _ _ _ _ _ _ _ _ _ _ _ _ _ _ _ _ _ _ _ HG2.out HNX.out
end Go.Proofs.YtccjognnehoodagGreatDoor
