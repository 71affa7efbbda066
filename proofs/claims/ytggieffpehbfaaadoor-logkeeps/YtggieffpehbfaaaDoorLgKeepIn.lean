/-
  PROVED HERE: lanelaw3.LogKeeps' inner loop: a Log, its history as a row of one's own and where its records end stand so again behind it.
  Conditions: package log's contract (LogW); the variable errors.errorType lies as it should (EtAt).
-/
import Derived.Test.YtggieffpehbfaaaDoorLgKeepBody
namespace Go.Proofs.YtggieffpehbfaaaDoor
open Go.RowKit

set_option maxHeartbeats 64000000 in
set_option maxRecDepth 1000000 in
theorem kin_blk {K : Act → World → Prop} {Q' : Exit → Act → World → Prop} {c4 c5 c6 c7 c8 c9 c10 c11 c12 c13 c14 c19 c21 c22 c23 c24 c25 c26 c27 c28 c29 c30 c31 c32 c33 c34 c35 c36 c37 c38 c39 c40 c41 c42 c43 c44 c45 c46 c47 c48 c49 c50 c51 c52 c53 c54 c55 c56 c57 c58 c59 c60 c61 c62 c63 c64 c65 c66 c67 c68 c69 c70 c71 c72 c73 c74 c75 c76 c77 c78 c79 c80 c81 c82 c83 c84 c85 c86 c87 c88 c89 c90 c91 c92 c93 c94 c95 c96 c97 c98 c99 c100 c101 c102 c103 c104 c105 c106 c107 c108 c109 c110 c111 c112 c113 c114 c115 c116 c117 c118 c119 c120 c121 c122 c123 c124 c125 c126 c127 c128 c129 c130 c131 c132 c133 c134 c135 c136 c137 c138 c139 c140 c141 c142 c143 c144 c145 c146 c147 c148 c149 c150 c151 c152 c153 c154 c155 c156 c157 c158 c159 c160 c161 c162 c163 c164 c165 c166 c167 c168 c169 c170 c171 c172 c173 c174 c175 c176 c177 c178 c179 c180 c181 c182 c183 c184 c185 c186 c187 c188 c189 c190 c191 c192 c193 c194 c195 c196 c197 c198 c199 c200 c201 c202 c203 c204 c205 c206 c207 c208 c209 c210 c211 c212 c213 c214 c215 c216 c217 c218 c219 c220 c221 c222 c223 c224 c225 c226 c227 c228 c229 c230 c231 c232 c233 c234 c235 c236 c237 c238 c239 c240 c241 c242 c243 c244 c245 c246 c247 c248 c249 c250 c251 c252 c253 c254 c255 c256 c257 c258 c259 c260 c261 c262 c263 c264 c265 c266 c267 c268 c269 c270 c271 c272 c273 c274 c275 c276 c277 c278 : Value} {Rep : World → Nat → Lg → (Nat → Prop) → Prop} (hR : LogW Rep) (l : List Op3) (sy fa ke : List Int) (lad sad fad kad : Option Addr) (lcap scap fcap kcap : Nat) (w : World) (hI : IsOps w (.slice lad l.length lcap) l) (hS : IsInts w (.slice sad sy.length scap) sy) (hF : IsInts w (.slice fad fa.length fcap) fa) (hK : IsInts w (.slice kad ke.length kcap) ke) (hl : l.length ≤ 5864062014805) (hg : EtAt w) (p : Nat) (s : Lg) (F : Nat → Prop) (dv mv : Value) (at' : Nat) (hat : at' ≤ l.length) (V : World) (hkp : KpF Rep w V p s F dv mv)
    (hKK : ∀ (u8 u16 u17 u18 u20 u21 u22 u23 u24 u25 u26 u105 u106 u107 u108 u109 u110 u111 u112 u113 u114 u115 u116 u117 u118 u119 u120 u121 u122 u123 u124 u125 u126 u127 u128 u129 u130 u131 u132 u133 u134 u135 u136 u137 u138 u139 u140 u141 u142 u143 u144 u145 u146 u147 u148 u149 u150 u151 u152 u153 u154 u155 u156 u157 u158 u159 u160 u161 u162 u163 u164 u165 u166 u167 u168 u169 u170 u171 u172 u173 u174 u175 u176 u177 u178 u179 u180 u181 u182 u183 u184 u185 u186 u187 u188 : Value) (V' : World), (∃ s F, ∃ a : Nat, a ≤ l.length ∧ u18 = .int .i64 (a : Int) ∧ KpF Rep w V' p s F u16 u17) → K ⟨#[.slice lad l.length lcap, .slice sad sy.length scap, .slice fad fa.length fcap, .slice kad ke.length kcap, c4, c5, c6, c7, u8, c9, c10, c11, c12, c13, c14, .pointer (some ⟨p, 0, none⟩), u16, u17, u18, c19, u20, u21, u22, u23, u24, u25, u26, c27, c28, c29, c30, c31, c32, c33, c34, c35, c36, c37, c38, c39, c40, c41, c42, c43, c44, c45, c46, c47, c48, c49, c50, c51, c52, c53, c54, c55, c56, c57, c58, c59, c60, c61, c62, c63, c64, c65, c66, c67, c68, c69, c70, c71, c72, c73, c74, c75, c76, c77, c78, c79, c80, c81, c82, c83, c84, c85, c86, c87, c88, c89, c90, c91, c92, c93, c94, c95, c96, c97, c98, c99, c100, c101, c102, c103, c104, u105, u106, u107, u108, u109, u110, u111, u112, u113, u114, u115, u116, u117, u118, u119, u120, u121, u122, u123, u124, u125, u126, u127, u128, u129, u130, u131, u132, u133, u134, u135, u136, u137, u138, u139, u140, u141, u142, u143, u144, u145, u146, u147, u148, u149, u150, u151, u152, u153, u154, u155, u156, u157, u158, u159, u160, u161, u162, u163, u164, u165, u166, u167, u168, u169, u170, u171, u172, u173, u174, u175, u176, u177, u178, u179, u180, u181, u182, u183, u184, u185, u186, u187, u188, c189, c190, c191, c192, c193, c194, c195, c196, c197, c198, c199, c200, c201, c202, c203, c204, c205, c206, c207, c208, c209, c210, c211, c212, c213, c214, c215, c216, c217, c218, c219, c220, c221, c222, c223, c224, c225, c226, c227, c228, c229, c230, c231, c232, c233, c234, c235, c236, c237, c238, c239, c240, c241, c242, c243, c244, c245, c246, c247, c248, c249, c250, c251, c252, c253, c254, c255, c256, c257, c258, c259, c260, c261, c262, c263, c264, c265, c266, c267, c268, c269, c270, c271, c272, c273, c274, c275, c276, c277, c278], []⟩ V') :
    Code.wp Tryd.prog ((Tryd.f5.body.bind (blkOfK 2)).getD .skip) (Exit.then K Q') ⟨#[.slice lad l.length lcap, .slice sad sy.length scap, .slice fad fa.length fcap, .slice kad ke.length kcap, c4, c5, c6, c7, c8, c9, c10, c11, c12, c13, c14, .pointer (some ⟨p, 0, none⟩), dv, mv, .int .i64 (at' : Int), c19, .int .i64 0, c21, c22, c23, c24, c25, c26, c27, c28, c29, c30, c31, c32, c33, c34, c35, c36, c37, c38, c39, c40, c41, c42, c43, c44, c45, c46, c47, c48, c49, c50, c51, c52, c53, c54, c55, c56, c57, c58, c59, c60, c61, c62, c63, c64, c65, c66, c67, c68, c69, c70, c71, c72, c73, c74, c75, c76, c77, c78, c79, c80, c81, c82, c83, c84, c85, c86, c87, c88, c89, c90, c91, c92, c93, c94, c95, c96, c97, c98, c99, c100, c101, c102, c103, c104, c105, c106, c107, c108, c109, c110, c111, c112, c113, c114, c115, c116, c117, c118, c119, c120, c121, c122, c123, c124, c125, c126, c127, c128, c129, c130, c131, c132, c133, c134, c135, c136, c137, c138, c139, c140, c141, c142, c143, c144, c145, c146, c147, c148, c149, c150, c151, c152, c153, c154, c155, c156, c157, c158, c159, c160, c161, c162, c163, c164, c165, c166, c167, c168, c169, c170, c171, c172, c173, c174, c175, c176, c177, c178, c179, c180, c181, c182, c183, c184, c185, c186, c187, c188, c189, c190, c191, c192, c193, c194, c195, c196, c197, c198, c199, c200, c201, c202, c203, c204, c205, c206, c207, c208, c209, c210, c211, c212, c213, c214, c215, c216, c217, c218, c219, c220, c221, c222, c223, c224, c225, c226, c227, c228, c229, c230, c231, c232, c233, c234, c235, c236, c237, c238, c239, c240, c241, c242, c243, c244, c245, c246, c247, c248, c249, c250, c251, c252, c253, c254, c255, c256, c257, c258, c259, c260, c261, c262, c263, c264, c265, c266, c267, c268, c269, c270, c271, c272, c273, c274, c275, c276, c277, c278], []⟩ V := by
  conv => arg 2; whnf
  have HPA := hid_k (And.intro hR (And.intro hI (And.intro hS (And.intro hF (And.intro hK (And.intro hl hg))))))
  have HKK := hid_k hKK
  have HKP := hid_k hkp
  clear hKK hkp hR hI hS hF hK hg
  dsimp only
  go_wp2_with fail
  go_loopw [16, 17, 18, 20, 21, 22, 23, 24, 25, 26] (fun v16 v17 v18 v20 _ _ _ _ _ _ V => ∃ (s : Lg) (F : Nat → Prop) (k at' : Nat), k ≤ 14 ∧ v20 = .int .i64 k ∧ at' ≤ l.length ∧ v18 = .int .i64 at' ∧ KpF Rep w V p s F v16 v17) (fun _ _ _ v20 _ _ _ _ _ _ _ => 15 - (intOf v20).toNat)
  case atStart => exact ⟨s, F, 0, at', by omega, rfl, hat, rfl, HKP.out⟩
  case round =>
    clear HKP hat
    obtain ⟨s, F, k, at', hk, rfl, hat, rfl, hkp⟩ := hrel
    have HKP := hid_k hkp
    clear hkp
    go_upto_region 20 with (fail)
    go_cut [112] from 105 to 188 (fun c V => c = .bool (decide (k < 14 ∧ at' < l.length)) ∧ KpF Rep w V p s F u16 u17)
    case first =>
      by_cases h14 : k < 14
      · have h14' : (k : Int) < 14 := by omega
        by_cases hal : at' < l.length
        · have hal' : (at' : Int) < (l.length : Int) := by omega
          go_wp2_with fail
          go_meet
          case rel => exact ⟨by simp [h14, hal], HKP.out⟩
        · have hal' : ¬ (at' : Int) < (l.length : Int) := by omega
          go_wp2_with fail
          go_meet
          case rel => exact ⟨by simp [hal], HKP.out⟩
      · have h14' : ¬ (k : Int) < 14 := by omega
        go_wp2_with fail
        go_meet
        case rel => exact ⟨by simp [h14], HKP.out⟩
    case rest =>
      obtain ⟨rfl, hkp⟩ := hcut
      have HKP2 := hid_k hkp
      clear hkp HKP
      by_cases hgo : k < 14 ∧ at' < l.length
      · rw [decide_eq_true hgo]
        obtain ⟨h14, hal⟩ := hgo
        go_upto_block 3 with (fail)
        obtain ⟨q1, q2, q3, q4, q5, q6, q7⟩ := HPA.out
        refine kbody_blk q1 l sy fa ke lad sad fad kad lcap scap fcap kcap w q2 q3 q4 q5 q6 q7 p s F _ _ at' hal _ HKP2.out ?_
        clear q1 q2 q3 q4 q5 q6 q7
        intro x16 x17 x18 x21 x22 x23 x24 x25 x26 x115 x116 x117 x118 x119 x120 x121 x122 x123 x124 x125 x126 x127 x128 x129 x130 x131 x132 x133 x134 x135 x136 x137 x138 x139 x140 x141 x142 x143 x144 x145 x146 x147 x148 x149 x150 x151 x152 x153 x154 x155 x156 x157 x158 x159 x160 x161 x162 x163 x164 x165 x166 x167 x168 x169 x170 x171 x172 x173 x174 x175 x176 x177 x178 x179 x180 x181 x182 x183 x184 x185 x186 x187 x188 V' e18 hex
        obtain ⟨s', F', hk'⟩ := hex
        have HK' := hid_k hk'
        subst e18
        clear hk' HKP2
        go_wp2_with fail
        go_roundw
        case rel => exact ⟨s', F', k + 1, at' + 1, by omega, by go_num, by omega, by go_num, HK'.out⟩
        case measure => simp [intOf]; omega
      · rw [decide_eq_false hgo]
        go_wp2_with fail
        exact HKK.out _ _ _ _ _ _ _ _ _ _ _ _ _ _ _ _ _ _ _ _ _ _ _ _ _ _ _ _ _ _ _ _ _ _ _ _ _ _ _ _ _ _ _ _ _ _ _ _ _ _ _ _ _ _ _ _ _ _ _ _ _ _ _ _ _ _ _ _ _ _ _ _ _ _ _ _ _ _ _ _ _ _ _ _ _ _ _ _ _ _ _ _ _ _ _ _ ⟨s, F, at', hat, rfl, HKP2.out⟩
end Go.Proofs.YtggieffpehbfaaaDoor
