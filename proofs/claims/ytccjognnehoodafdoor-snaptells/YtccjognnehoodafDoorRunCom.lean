/-
  PROVED HERE: laneref2.Run's switch at a Commit, of kinds 1 and 2: the deal is done, or not.
  Conditions: the lists are short.
-/
import Derived.Test.YtccjognnehoodafDoorRunSw
import Derived.Deep.CutBlock
import Derived.Deep.Cut
namespace Go.Proofs.YtccjognnehoodafDoor
open Go.RowKit

set_option maxHeartbeats 32000000 in
set_option maxRecDepth 1000000 in
theorem looks_no {K : Act → World → Prop} {Q' : Exit → Act → World → Prop} {c0 c2 c3 c4 c5 c6 c7 c9 c10 c11 c12 c13 c14 c15 c16 c17 c18 c20 c21 c22 c23 c24 c25 c26 c27 c28 c29 c30 c31 c32 c33 c34 c35 c36 c37 c38 c39 c40 c41 c42 c43 c44 c45 c46 c47 c48 c49 c50 c51 c52 c53 c54 c55 c56 c57 c58 c59 c60 c61 c62 c63 c64 c65 c66 c67 c68 c69 c70 c71 c72 c73 c74 c75 c76 c77 c78 c79 c80 c81 c82 c83 c84 c85 c86 c87 c88 c89 c90 c91 c92 c93 c94 c95 c96 c97 c98 c99 c100 c101 c102 c103 c104 c105 c106 c107 c108 c109 c110 c111 c112 c113 c114 c115 c116 c117 c118 c119 c120 c121 c122 c123 c124 c125 c126 c127 c128 c129 c130 c131 c132 c133 c134 c135 c136 c137 c138 c139 c140 c141 c142 c143 c144 c145 c146 c147 c148 c149 c150 c151 c152 c153 c154 c155 c156 c157 c158 c159 c160 c161 c162 c163 c164 c165 c166 c167 c168 c169 c170 c171 c172 c173 c174 c175 c176 c177 c178 c179 c180 c181 c182 c183 c184 c185 c186 c187 c188 c189 c190 c191 c192 c193 c194 c195 c196 c197 c198 c199 c200 c201 c202 c203 c204 c205 c206 c207 c208 c209 c210 c211 c212 c213 c214 c215 c216 c217 c218 c219 c220 c221 c222 c223 c224 c225 c226 c227 c228 c229 c230 c231 c232 c233 : Value} {kind : Int} {adl : Option Addr} {nlk cpl : Nat} (hk4 : (kind == 4) = false) (V : World) (hK : ∀ (u20 u166 u167 u168 u169 u170 u171 u172 u173 u174 u175 u176 u177 u178 u179 u180 u181 u182 u183 u184 u185 u186 u187 u188 u189 u190 u191 u192 u193 u194 u195 u196 u197 u198 u199 u200 u201 u202 u203 u204 : Value), K ⟨#[c0, .int .i64 kind, c2, c3, c4, c5, c6, c7, .slice adl nlk cpl, c9, c10, c11, c12, c13, c14, c15, c16, c17, c18, .int .i64 0, u20, c21, c22, c23, c24, c25, c26, c27, c28, c29, c30, c31, c32, c33, c34, c35, c36, c37, c38, c39, c40, c41, c42, c43, c44, c45, c46, c47, c48, c49, c50, c51, c52, c53, c54, c55, c56, c57, c58, c59, c60, c61, c62, c63, c64, c65, c66, c67, c68, c69, c70, c71, c72, c73, c74, c75, c76, c77, c78, c79, c80, c81, c82, c83, c84, c85, c86, c87, c88, c89, c90, c91, c92, c93, c94, c95, c96, c97, c98, c99, c100, c101, c102, c103, c104, c105, c106, c107, c108, c109, c110, c111, c112, c113, c114, c115, c116, c117, c118, c119, c120, c121, c122, c123, c124, c125, c126, c127, c128, c129, c130, c131, c132, c133, c134, c135, c136, c137, c138, c139, c140, c141, c142, c143, c144, c145, c146, c147, c148, c149, c150, c151, c152, c153, c154, c155, c156, c157, c158, c159, c160, c161, c162, c163, c164, c165, u166, u167, u168, u169, u170, u171, u172, u173, u174, u175, u176, u177, u178, u179, u180, u181, u182, u183, u184, u185, u186, u187, u188, u189, u190, u191, u192, u193, u194, u195, u196, u197, u198, u199, u200, u201, u202, u203, u204, c205, c206, c207, c208, c209, c210, c211, c212, c213, c214, c215, c216, c217, c218, c219, c220, c221, c222, c223, c224, c225, c226, c227, c228, c229, c230, c231, c232, c233], []⟩ V) :
    Code.wp Tryd.prog ((Tryd.f8.body.bind (blkOf 8)).getD .skip) (Exit.then K Q') ⟨#[c0, .int .i64 kind, c2, c3, c4, c5, c6, c7, .slice adl nlk cpl, c9, c10, c11, c12, c13, c14, c15, c16, c17, c18, .int .i64 0, c20, c21, c22, c23, c24, c25, c26, c27, c28, c29, c30, c31, c32, c33, c34, c35, c36, c37, c38, c39, c40, c41, c42, c43, c44, c45, c46, c47, c48, c49, c50, c51, c52, c53, c54, c55, c56, c57, c58, c59, c60, c61, c62, c63, c64, c65, c66, c67, c68, c69, c70, c71, c72, c73, c74, c75, c76, c77, c78, c79, c80, c81, c82, c83, c84, c85, c86, c87, c88, c89, c90, c91, c92, c93, c94, c95, c96, c97, c98, c99, c100, c101, c102, c103, c104, c105, c106, c107, c108, c109, c110, c111, c112, c113, c114, c115, c116, c117, c118, c119, c120, c121, c122, c123, c124, c125, c126, c127, c128, c129, c130, c131, c132, c133, c134, c135, c136, c137, c138, c139, c140, c141, c142, c143, c144, c145, c146, c147, c148, c149, c150, c151, c152, c153, c154, c155, c156, c157, c158, c159, c160, c161, c162, c163, c164, c165, c166, c167, c168, c169, c170, c171, c172, c173, c174, c175, c176, c177, c178, c179, c180, c181, c182, c183, c184, c185, c186, c187, c188, c189, c190, c191, c192, c193, c194, c195, c196, c197, c198, c199, c200, c201, c202, c203, c204, c205, c206, c207, c208, c209, c210, c211, c212, c213, c214, c215, c216, c217, c218, c219, c220, c221, c222, c223, c224, c225, c226, c227, c228, c229, c230, c231, c232, c233], []⟩ V := by
  conv => arg 2; whnf
  have HK := hid_r hK
  clear hK
  go_wp2_with fail
  go_loopw [14, 19] (fun v14 v19 wr => v14 = c14 ∧ v19 = .int .i64 0 ∧ wr = V) (fun _ _ _ => 0)
  case atStart => exact ⟨rfl, rfl, rfl⟩
  case round =>
    obtain ⟨h14, rfl, hwr⟩ := hrel
    subst hwr
    subst h14
    by_cases hlk : 0 < nlk
    · have hlk' : (0 : Int) < (nlk : Int) := by omega
      go_wp2_with fail
      exact HK.out _ _ _ _ _ _ _ _ _ _ _ _ _ _ _ _ _ _ _ _ _ _ _ _ _ _ _ _ _ _ _ _ _ _ _ _ _ _ _ _
    · have hlk' : ¬ (0 : Int) < (nlk : Int) := by omega
      go_wp2_with fail
      exact HK.out _ _ _ _ _ _ _ _ _ _ _ _ _ _ _ _ _ _ _ _ _ _ _ _ _ _ _ _ _ _ _ _ _ _ _ _ _ _ _ _
set_option maxHeartbeats 32000000 in
set_option maxRecDepth 1000000 in
theorem sw_commit2 {K : Act → World → Prop} {Q' : Exit → Act → World → Prop} {c0 c2 c3 c4 c6 c7 c12 c13 c14 c15 c16 c17 c18 c19 c20 c21 c22 c23 c24 c25 c26 c27 c28 c29 c30 c31 c32 c33 c34 c35 c36 c37 c38 c39 c40 c41 c42 c43 c44 c45 c46 c47 c48 c49 c50 c51 c53 c54 c55 c56 c57 c58 c59 c60 c61 c62 c63 c64 c65 c66 c67 c68 c69 c70 c71 c72 c73 c74 c75 c76 c77 c78 c79 c80 c81 c82 c83 c84 c85 c86 c87 c88 c89 c90 c91 c92 c93 c94 c95 c96 c97 c98 c99 c100 c101 c102 c103 c104 c105 c106 c107 c108 c109 c110 c111 c112 c113 c114 c115 c116 c117 c118 c119 c120 c121 c122 c123 c124 c125 c126 c127 c128 c129 c130 c131 c132 c133 c134 c135 c136 c137 c138 c139 c140 c141 c142 c143 c144 c145 c146 c147 c148 c149 c150 c151 c152 c153 c154 c155 c156 c157 c158 c159 c160 c161 c162 c163 c164 c165 c166 c167 c168 c169 c170 c171 c172 c173 c174 c175 c176 c177 c178 c179 c180 c181 c182 c183 c184 c185 c186 c187 c188 c189 c190 c191 c192 c193 c194 c195 c196 c197 c198 c199 c200 c201 c202 c203 c204 c205 c206 c207 c208 c209 c210 c211 c212 c213 c214 c215 c216 c217 c218 c219 c220 c221 c222 c223 c224 c225 c226 c227 c228 c229 c230 c231 c232 c233 : Value} {w : World} {s : Kst} {at_ : Int} {dt : Nat} {c1 : KLay} {Q D : Nat} {i : Int} {r : Dl} {ads adw add : Option Addr} {ns cps nw cpw cpd : Nat} {kind : Int} {adl : Option Addr} {nlk cpl : Nat} (V : World) (hR : Rnd w V s at_ dt c1 Q D ((dt : Int), 3, i) r (.slice ads ns cps) (.slice adw nw cpw) (.slice add s.done.length cpd)) (hlen : r.seen.length = ns ∧ r.wrote.length = nw ∧ ns ≤ 40 ∧ nw ≤ 40) (hDS : ∀ V', Rnd w V' s at_ dt c1 Q D ((dt : Int), 3, i) r (.slice ads ns cps) (.slice adw nw cpw) (.slice add s.done.length cpd) → IsDeals V' (.slice add s.done.length cpd) s.done s.of) (hKL : ∀ t, (s.of t).seen.length ≤ 40 ∧ (s.of t).wrote.length ≤ 40) (hdn6 : s.done.length ≤ 6) (hk4 : kind < 4) (hk4b : (kind == 4) = false) (hk3 : (kind == 3) = false)
    (hK : ∀ (u12 u13 u14 u15 u16 u17 u18 u19 u20 u21 u53 u54 u55 u56 u57 u58 u59 u60 u61 u62 u63 u64 u65 u66 u67 u68 u69 u70 u71 u72 u73 u74 u75 u76 u77 u78 u79 u80 u81 u82 u83 u84 u85 u86 u87 u88 u89 u90 u91 u92 u93 u94 u95 u96 u97 u98 u99 u100 u101 u102 u103 u104 u105 u106 u107 u108 u109 u110 u111 u112 u113 u114 u115 u116 u117 u118 u119 u120 u121 u122 u123 u124 u125 u126 u127 u128 u129 u130 u131 u132 u133 u134 u135 u136 u137 u138 u139 u140 u141 u142 u143 u144 u145 u146 u147 u148 u149 u150 u151 u152 u153 u154 u155 u156 u157 u158 u159 u160 u161 u162 u163 u164 u165 u166 u167 u168 u169 u170 u171 u172 u173 u174 u175 u176 u177 u178 u179 u180 u181 u182 u183 u184 u185 u186 u187 u188 u189 u190 u191 u192 u193 u194 u195 u196 u197 u198 u199 u200 u201 u202 u203 u204 u205 u206 u207 u208 u209 u210 u211 u212 u213 u214 u215 u216 u217 u218 u219 u220 u221 u222 u223 u224 u225 u226 u227 u228 : Value) (X : World) (s' : Kst) (b' e' : Int) (sa wa da : Option Addr) (sn sc wn wc dn dc : Nat), Ready w X s' c1 Q D dt (dt : Int) b' e' (.slice sa sn sc) (.slice wa wn wc) (.slice da dn dc) → s' = (if hitK kind s (dt : Int) r = true then { s with of := setF s.of (dt : Int) r, beg := setF s.beg (dt : Int) true, done := s.done } else { s with of := setF s.of (dt : Int) { r with ended := at_ }, beg := setF s.beg (dt : Int) true, done := s.done ++ [(dt : Int)] }) → K ⟨#[c0, .int .i64 kind, c2, c3, c4, .slice da dn dc, c6, c7, .slice adl nlk cpl, .int .i64 at_, .pointer (some ⟨Q, 0, none⟩), .pointer (some ⟨D, 0, none⟩), u12, u13, u14, u15, u16, u17, u18, u19, u20, u21, c22, c23, c24, c25, c26, c27, c28, c29, c30, c31, c32, c33, c34, c35, c36, c37, c38, c39, c40, c41, c42, c43, c44, c45, c46, c47, c48, c49, c50, c51, .int .i64 3, u53, u54, u55, u56, u57, u58, u59, u60, u61, u62, u63, u64, u65, u66, u67, u68, u69, u70, u71, u72, u73, u74, u75, u76, u77, u78, u79, u80, u81, u82, u83, u84, u85, u86, u87, u88, u89, u90, u91, u92, u93, u94, u95, u96, u97, u98, u99, u100, u101, u102, u103, u104, u105, u106, u107, u108, u109, u110, u111, u112, u113, u114, u115, u116, u117, u118, u119, u120, u121, u122, u123, u124, u125, u126, u127, u128, u129, u130, u131, u132, u133, u134, u135, u136, u137, u138, u139, u140, u141, u142, u143, u144, u145, u146, u147, u148, u149, u150, u151, u152, u153, u154, u155, u156, u157, u158, u159, u160, u161, u162, u163, u164, u165, u166, u167, u168, u169, u170, u171, u172, u173, u174, u175, u176, u177, u178, u179, u180, u181, u182, u183, u184, u185, u186, u187, u188, u189, u190, u191, u192, u193, u194, u195, u196, u197, u198, u199, u200, u201, u202, u203, u204, u205, u206, u207, u208, u209, u210, u211, u212, u213, u214, u215, u216, u217, u218, u219, u220, u221, u222, u223, u224, u225, u226, u227, u228, c229, c230, c231, c232, c233], []⟩ X) :
    Code.wp Tryd.prog ((Tryd.f8.body.bind (blkOf 2)).getD .skip) (Exit.then K Q') ⟨#[c0, .int .i64 kind, c2, c3, c4, .slice add s.done.length cpd, c6, c7, .slice adl nlk cpl, .int .i64 at_, .pointer (some ⟨Q, 0, none⟩), .pointer (some ⟨D, 0, none⟩), c12, c13, c14, c15, c16, c17, c18, c19, c20, c21, c22, c23, c24, c25, c26, c27, c28, c29, c30, c31, c32, c33, c34, c35, c36, c37, c38, c39, c40, c41, c42, c43, c44, c45, c46, c47, c48, c49, c50, c51, .int .i64 3, c53, c54, c55, c56, c57, c58, c59, c60, c61, c62, c63, c64, c65, c66, c67, c68, c69, c70, c71, c72, c73, c74, c75, c76, c77, c78, c79, c80, c81, c82, c83, c84, c85, c86, c87, c88, c89, c90, c91, c92, c93, c94, c95, c96, c97, c98, c99, c100, c101, c102, c103, c104, c105, c106, c107, c108, c109, c110, c111, c112, c113, c114, c115, c116, c117, c118, c119, c120, c121, c122, c123, c124, c125, c126, c127, c128, c129, c130, c131, c132, c133, c134, c135, c136, c137, c138, c139, c140, c141, c142, c143, c144, c145, c146, c147, c148, c149, c150, c151, c152, c153, c154, c155, c156, c157, c158, c159, c160, c161, c162, c163, c164, c165, c166, c167, c168, c169, c170, c171, c172, c173, c174, c175, c176, c177, c178, c179, c180, c181, c182, c183, c184, c185, c186, c187, c188, c189, c190, c191, c192, c193, c194, c195, c196, c197, c198, c199, c200, c201, c202, c203, c204, c205, c206, c207, c208, c209, c210, c211, c212, c213, c214, c215, c216, c217, c218, c219, c220, c221, c222, c223, c224, c225, c226, c227, c228, c229, c230, c231, c232, c233], []⟩ V := by
  conv => arg 2; whnf
  have HRN := hid_r hR
  have HLEN := hid_r hlen
  have HK := hid_r hK
  have hns40 := hlen.2.2.1
  have hnw40 := hlen.2.2.2
  obtain ⟨d0, d1, d2, d3, d4⟩ := hR.dl.cells
  obtain ⟨p0, p1, p2⟩ := hR.box
  simp only at p0 p1 p2
  have hDl : D < V.heap.size := hR.dl.lt
  have HKL := hid_r hKL
  have HDS := hid_r hDS
  obtain ⟨d00, hi, hz0, hs0, hy0⟩ := info_parts infoDealK
  have HDI : Hid (Tryd.prog.info? 39 = some d00 ∧ d00.zero = some (.agg #[.int .i64 0, .int .i64 0, .int .i64 0, .slice none 0 0, .slice none 0 0]) ∧ d00.size = 5 ∧ d00.bytes = 72) := ⟨hi, hz0, hs0, hy0⟩
  clear hR hlen hK hi hz0 hs0 hy0 hDS hKL
  go_upto_block 4 with (fail)
  refine hit_blk kind hk4 V HRN.out HDS.out HLEN.out HKL.out hdn6 ?_
  intro x15 x16 x17 x18 x118 x119 x120 x121 x122 x123 x124 x125 x126 x127 x128 x129 x130 x131 x132 x133 x134 x135 x136 x137 x138 x139 x140 x141 x142 x143 x144 x145 x146 x147 x148 x149 x150 x151 x152 x153 x154 x155 x156 x157 x158 x159 x160 x161 x162 x163 x164 x165 V' hR'
  have HRX := hid_r hR'
  obtain ⟨hb, hhb⟩ : ∃ hb, hitK kind s (dt : Int) r = hb := ⟨_, rfl⟩
  rw [hhb]
  have HHB := hid_r hhb
  clear hR' hhb d0 d1 d2 d3 d4 p0 p1 p2 hDl
  go_upto_block 8 with (fail)
  refine looks_no hk4b V' ?_
  intro y20 y166 y167 y168 y169 y170 y171 y172 y173 y174 y175 y176 y177 y178 y179 y180 y181 y182 y183 y184 y185 y186 y187 y188 y189 y190 y191 y192 y193 y194 y195 y196 y197 y198 y199 y200 y201 y202 y203 y204
  obtain ⟨t0, t1, t2, t3, t4⟩ := HRX.out.dl.cells
  have tz := HRX.out.dl.thaw 2
  have hDx := HRX.out.dl.lt
  cases hb with
  | true =>
    have HG2 := hid_r (HRX.out.stays rfl)
    have HNX : Hid ({ s with of := setF s.of (dt : Int) r, beg := setF s.beg (dt : Int) true, done := s.done } = (if hitK kind s (dt : Int) r = true then { s with of := setF s.of (dt : Int) r, beg := setF s.beg (dt : Int) true, done := s.done } else { s with of := setF s.of (dt : Int) { r with ended := at_ }, beg := setF s.beg (dt : Int) true, done := s.done ++ [(dt : Int)] })) := by show _ = _; rw [if_pos HHB.out]
    go_wp2_with fail
    exact HK.out _ _ _ _ _ _ _ _ _ _ _ _ _ _ _ _ _ _ _ _ _ _ _ _ _ _ _ _ _ _ _ _ _ _ _ _ _ _ _ _ _ _ _ _ _ _ _ _ _ _ _ _ _ _ _ _ _ _ _ _ _ _ _ _ _ _ _ _ _ _ _ _ _ _ _ _ _ _ _ _ _ _ _ _ _ _ _ _ _ _ _ _ _ _ _ _ _ _ _ _ _ _ _ _ _ _ _ _ _ _ _ _ _ _ _ _ _ _ _ _ _ _ _ _ _ _ _ _ _ _ _ _ _ _ _ _ _ _ _ _ _ _ _ _ _ _ _ _ _ _ _ _ _ _ _ _ _ _ _ _ _ _ _ _ _ _ _ _ _ _ _ _ _ _ _ _ _ _ _ _ _ _ _ _ _ _ _ _ _ _ _ _ _ _ _ _ _ _ _ HG2.out HNX.out
  | false =>
    have HNX : Hid ({ s with of := setF s.of (dt : Int) { r with ended := at_ }, beg := setF s.beg (dt : Int) true, done := s.done ++ [(dt : Int)] } = (if hitK kind s (dt : Int) r = true then { s with of := setF s.of (dt : Int) r, beg := setF s.beg (dt : Int) true, done := s.done } else { s with of := setF s.of (dt : Int) { r with ended := at_ }, beg := setF s.beg (dt : Int) true, done := s.done ++ [(dt : Int)] })) := by show _ = _; rw [if_neg (by rw [HHB.out]; decide)]
    go_upto_region 55 with (fail)
    obtain ⟨V2, hV2⟩ : ∃ V2, V2 = V'.setCell ⟨D, 2, none⟩ (.int .i64 at_) := ⟨_, rfl⟩
    rw [← hV2]
    obtain ⟨e1, e2, e3⟩ := HRX.out.ended
    rw [← hV2] at e1 e2 e3
    have HE3 := hid_r e3
    obtain ⟨w0', w1', w2', w3', w4'⟩ := e1.cells
    have HPT : Hid (∀ (v2 : Value) (w2 : World) (ob : Obj), w2.ownsRow 0 39 5 v2 (s.done.length + 1) (flatD (stayStep s at_ (dt : Int)) c1 s.done ++ [.int .i64 (dt : Int), .int .i64 r.began, .int .i64 at_, .slice ads ns cps, .slice adw nw cpw]) → (V2.alloc ob).grownBy w2 (Value.slice add s.done.length cpd).ownBlock → (∀ j, v2.ownBlock = some j → (Value.slice add s.done.length cpd).ownBlock = some j ∨ (V2.alloc ob).heap.size ≤ j) → Ready w w2 { s with of := setF s.of (dt : Int) { r with ended := at_ }, beg := setF s.beg (dt : Int) true, done := s.done ++ [(dt : Int)] } c1 Q D dt (dt : Int) r.began at_ (.slice ads ns cps) (.slice adw nw cpw) v2) := fun v2 w2 ob g1 g2 g3 => HRX.out.done rfl (by rw [← hV2]; exact g2) g1 (by rw [← hV2]; exact g3)
    clear hV2 e1 e2 e3 t0 t1 t2 t3 t4 tz
    go_wp2_with (at_builtin; refine wpList_append_apart _ rfl (.tmp 225) (.tmp 227) 35 rfl 0 39 d00 (.agg #[.int .i64 0, .int .i64 0, .int .i64 0, .slice none 0 0, .slice none 0 0]) 5 72 Tryd.underlying35 HDI.out.1 HDI.out.2.1 HDI.out.2.2.1 HDI.out.2.2.2 rfl (by decide) (.slice add s.done.length cpd) s.done.length (flatD (stayStep s at_ (dt : Int)) c1 s.done) rfl (HE3.out.alloc _) ⟨V2.heap.size, 0, none⟩ 1 1 [.int .i64 (dt : Int), .int .i64 r.began, .int .i64 at_, .slice ads ns cps, .slice adw nw cpw] rfl rfl (deal_new V2 _ _ _ _ _ _) (by simp [Value.oneCell']) (by unfold maxLen; omega) (by omega) (Nat.zero_le _) ?_; intro v2 w2 hown2 hgr2 hap2; have g2 := HPT.out v2 w2 _ hown2 hgr2 hap2; clear hap2 hgr2; obtain ⟨ad6, c6', rfl, -⟩ := own_slice3 hown2; have HG2 := hid_r g2; clear g2 hown2)
    exact HK.out _ _ _ _ _ _ _ _ _ _ _ _ _ _ _ _ _ _ _ _ _ _ _ _ _ _ _ _ _ _ _ _ _ _ _ _ _ _ _ _ _ _ _ _ _ _ _ _ _ _ _ _ _ _ _ _ _ _ _ _ _ _ _ _ _ _ _ _ _ _ _ _ _ _ _ _ _ _ _ _ _ _ _ _ _ _ _ _ _ _ _ _ _ _ _ _ _ _ _ _ _ _ _ _ _ _ _ _ _ _ _ _ _ _ _ _ _ _ _ _ _ _ _ _ _ _ _ _ _ _ _ _ _ _ _ _ _ _ _ _ _ _ _ _ _ _ _ _ _ _ _ _ _ _ _ _ _ _ _ _ _ _ _ _ _ _ _ _ _ _ _ _ _ _ _ _ _ _ _ _ _ _ _ _ _ _ _ _ _ _ _ _ _ _ _ _ _ _ _ HG2.out HNX.out
end Go.Proofs.YtccjognnehoodafDoor
