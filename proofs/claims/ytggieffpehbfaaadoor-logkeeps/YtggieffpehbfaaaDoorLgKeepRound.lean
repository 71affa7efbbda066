/-
  PROVED HERE: lanelaw3.LogKeeps' round: a Log, its history as a row of one's own and where its records end stand so again behind it, a crash being its last.
  Conditions: package log's contract (LogW) and play.Values' (ValuesOk); the variable errors.errorType lies as it should (EtAt).
-/
import Derived.Test.YtggieffpehbfaaaDoorLgKeepIn
import Derived.Test.YtggieffpehbfaaaDoorLgKeepMark
import Derived.Test.YtggieffpehbfaaaDoorLgKeepReg
import Derived.Test.YtggieffpehbfaaaDoorSameInts
import Derived.Test.YtggieffpehbfaaaDoorPlayAsk
namespace Go.Proofs.YtggieffpehbfaaaDoor
open Go.RowKit

theorem mark_cells {W : World} {b g n c : Nat} {m : List Nat} (ho : W.ownsRow b 3 1 (.slice (some ⟨g, 0, none⟩) n c) n (m.map natC)) (hl : m.length = n) : ∀ i, i < n → W.cell? ⟨g, i, none⟩ = some (.int .i64 ((m.getD i 0 : Nat) : Int)) := fun i hi => by
  have hi' : i < m.length := by omega
  have := ho.cells (g := g) rfl i (.int .i64 ((m.getD i 0 : Nat) : Int)) (by simp [natC, List.getD, List.getElem?_eq_getElem hi'])
  rw [Addr.add_lit] at this
  simpa using this
set_option maxHeartbeats 64000000 in
set_option maxRecDepth 1000000 in
theorem kround_blk {K : Act → World → Prop} {Q' : Exit → Act → World → Prop} {c4 c5 c6 c7 c8 c9 c10 c11 c12 c13 c14 c20 c21 c22 c23 c24 c25 c26 c27 c28 c29 c30 c31 c32 c33 c34 c35 c36 c37 c38 c39 c40 c41 c42 c43 c44 c45 c46 c47 c48 c49 c50 c51 c52 c53 c54 c55 c56 c57 c58 c59 c60 c61 c62 c63 c64 c65 c66 c67 c68 c69 c70 c71 c72 c73 c74 c75 c76 c77 c78 c79 c80 c81 c82 c83 c84 c85 c86 c87 c88 c89 c90 c91 c92 c93 c94 c95 c96 c97 c98 c99 c100 c101 c102 c103 c104 c105 c106 c107 c108 c109 c110 c111 c112 c113 c114 c115 c116 c117 c118 c119 c120 c121 c122 c123 c124 c125 c126 c127 c128 c129 c130 c131 c132 c133 c134 c135 c136 c137 c138 c139 c140 c141 c142 c143 c144 c145 c146 c147 c148 c149 c150 c151 c152 c153 c154 c155 c156 c157 c158 c159 c160 c161 c162 c163 c164 c165 c166 c167 c168 c169 c170 c171 c172 c173 c174 c175 c176 c177 c178 c179 c180 c181 c182 c183 c184 c185 c186 c187 c188 c189 c190 c191 c192 c193 c194 c195 c196 c197 c198 c199 c200 c201 c202 c203 c204 c205 c206 c207 c208 c209 c210 c211 c212 c213 c214 c215 c216 c217 c218 c219 c220 c221 c222 c223 c224 c225 c226 c227 c228 c229 c230 c231 c232 c233 c234 c235 c236 c237 c238 c239 c240 c241 c242 c243 c244 c245 c246 c247 c248 c249 c250 c251 c252 c253 c254 c255 c256 c257 c258 c259 c260 c261 c262 c263 c264 c265 c266 c267 c268 c269 c270 c271 c272 c273 c274 c275 c276 c277 c278 : Value} {Rep : World → Nat → Lg → (Nat → Prop) → Prop} (hR : LogW Rep) (l : List Op3) (sy fa ke : List Int) (lad sad fad kad : Option Addr) (lcap scap fcap kcap : Nat) (w : World) (hI : IsOps w (.slice lad l.length lcap) l) (hS : IsInts w (.slice sad sy.length scap) sy) (hF : IsInts w (.slice fad fa.length fcap) fa) (hK : IsInts w (.slice kad ke.length kcap) ke) (hl : l.length ≤ 5864062014805) (hg : EtAt w) (hV : ValuesOk) (p : Nat) (s : Lg) (F : Nat → Prop) (dv mv : Value) (rd at' : Nat) (h4 : rd < 4) (hat : at' ≤ l.length) (V : World) (hkp : KpF Rep w V p s F dv mv)
    (hKK : ∀ (u8 u16 u17 u18 u20 u21 u22 u23 u24 u25 u26 u27 u28 u29 u30 u31 u32 u33 u34 u95 u96 u97 u98 u99 u100 u101 u102 u103 u104 u105 u106 u107 u108 u109 u110 u111 u112 u113 u114 u115 u116 u117 u118 u119 u120 u121 u122 u123 u124 u125 u126 u127 u128 u129 u130 u131 u132 u133 u134 u135 u136 u137 u138 u139 u140 u141 u142 u143 u144 u145 u146 u147 u148 u149 u150 u151 u152 u153 u154 u155 u156 u157 u158 u159 u160 u161 u162 u163 u164 u165 u166 u167 u168 u169 u170 u171 u172 u173 u174 u175 u176 u177 u178 u179 u180 u181 u182 u183 u184 u185 u186 u187 u188 u189 u190 u191 u192 u193 u194 u195 u196 u197 u198 u199 u200 u201 u202 u203 u204 u205 u206 u207 u208 u209 u210 u211 u212 u213 u214 u215 u216 u217 u218 u219 u220 u221 u222 u223 u224 u225 u226 u227 u228 u229 u230 u231 u232 u233 u234 u235 u236 u237 u238 u239 u240 u241 u242 u243 u244 u245 u246 u247 u248 u249 u250 u251 u252 u253 u254 u255 u256 u257 u258 u259 u260 u261 u262 u263 u264 u265 u266 u267 u268 u269 u270 u271 u272 u273 u274 u275 u276 u277 u278 : Value) (V' : World), (∃ s F, ∃ a : Nat, a ≤ l.length ∧ u18 = .int .i64 (a : Int) ∧ KpF Rep w V' p s F u16 u17) → K ⟨#[.slice lad l.length lcap, .slice sad sy.length scap, .slice fad fa.length fcap, .slice kad ke.length kcap, c4, c5, c6, c7, u8, c9, c10, c11, c12, c13, c14, .pointer (some ⟨p, 0, none⟩), u16, u17, u18, .int .i64 (rd : Int), u20, u21, u22, u23, u24, u25, u26, u27, u28, u29, u30, u31, u32, u33, u34, c35, c36, c37, c38, c39, c40, c41, c42, c43, c44, c45, c46, c47, c48, c49, c50, c51, c52, c53, c54, c55, c56, c57, c58, c59, c60, c61, c62, c63, c64, c65, c66, c67, c68, c69, c70, c71, c72, c73, c74, c75, c76, c77, c78, c79, c80, c81, c82, c83, c84, c85, c86, c87, c88, c89, c90, c91, c92, c93, c94, u95, u96, u97, u98, u99, u100, u101, u102, u103, u104, u105, u106, u107, u108, u109, u110, u111, u112, u113, u114, u115, u116, u117, u118, u119, u120, u121, u122, u123, u124, u125, u126, u127, u128, u129, u130, u131, u132, u133, u134, u135, u136, u137, u138, u139, u140, u141, u142, u143, u144, u145, u146, u147, u148, u149, u150, u151, u152, u153, u154, u155, u156, u157, u158, u159, u160, u161, u162, u163, u164, u165, u166, u167, u168, u169, u170, u171, u172, u173, u174, u175, u176, u177, u178, u179, u180, u181, u182, u183, u184, u185, u186, u187, u188, u189, u190, u191, u192, u193, u194, u195, u196, u197, u198, u199, u200, u201, u202, u203, u204, u205, u206, u207, u208, u209, u210, u211, u212, u213, u214, u215, u216, u217, u218, u219, u220, u221, u222, u223, u224, u225, u226, u227, u228, u229, u230, u231, u232, u233, u234, u235, u236, u237, u238, u239, u240, u241, u242, u243, u244, u245, u246, u247, u248, u249, u250, u251, u252, u253, u254, u255, u256, u257, u258, u259, u260, u261, u262, u263, u264, u265, u266, u267, u268, u269, u270, u271, u272, u273, u274, u275, u276, u277, u278], []⟩ V') :
    Code.wp Tryd.prog ((Tryd.f5.body.bind (blkOfK 1)).getD .skip) (Exit.then K Q') ⟨#[.slice lad l.length lcap, .slice sad sy.length scap, .slice fad fa.length fcap, .slice kad ke.length kcap, c4, c5, c6, c7, c8, c9, c10, c11, c12, c13, c14, .pointer (some ⟨p, 0, none⟩), dv, mv, .int .i64 (at' : Int), .int .i64 (rd : Int), c20, c21, c22, c23, c24, c25, c26, c27, c28, c29, c30, c31, c32, c33, c34, c35, c36, c37, c38, c39, c40, c41, c42, c43, c44, c45, c46, c47, c48, c49, c50, c51, c52, c53, c54, c55, c56, c57, c58, c59, c60, c61, c62, c63, c64, c65, c66, c67, c68, c69, c70, c71, c72, c73, c74, c75, c76, c77, c78, c79, c80, c81, c82, c83, c84, c85, c86, c87, c88, c89, c90, c91, c92, c93, c94, c95, c96, c97, c98, c99, c100, c101, c102, c103, c104, c105, c106, c107, c108, c109, c110, c111, c112, c113, c114, c115, c116, c117, c118, c119, c120, c121, c122, c123, c124, c125, c126, c127, c128, c129, c130, c131, c132, c133, c134, c135, c136, c137, c138, c139, c140, c141, c142, c143, c144, c145, c146, c147, c148, c149, c150, c151, c152, c153, c154, c155, c156, c157, c158, c159, c160, c161, c162, c163, c164, c165, c166, c167, c168, c169, c170, c171, c172, c173, c174, c175, c176, c177, c178, c179, c180, c181, c182, c183, c184, c185, c186, c187, c188, c189, c190, c191, c192, c193, c194, c195, c196, c197, c198, c199, c200, c201, c202, c203, c204, c205, c206, c207, c208, c209, c210, c211, c212, c213, c214, c215, c216, c217, c218, c219, c220, c221, c222, c223, c224, c225, c226, c227, c228, c229, c230, c231, c232, c233, c234, c235, c236, c237, c238, c239, c240, c241, c242, c243, c244, c245, c246, c247, c248, c249, c250, c251, c252, c253, c254, c255, c256, c257, c258, c259, c260, c261, c262, c263, c264, c265, c266, c267, c268, c269, c270, c271, c272, c273, c274, c275, c276, c277, c278], []⟩ V := by
  conv => arg 2; whnf
  have HFA : Hid (∀ W p s F n, LgF Rep w W p s F → Calls Tryd.prog 9 #[ptL p, .int .i64 n] W fun e w' => ∃ F', e = .returned (.tuple #[]) ∧ LgF Rep w w' p (failS s n) F' ∧ CarryA w W F w' F') := fun W p s F n h => lgF_fail hR h n
  have HCR : Hid (∀ W p s F n, LgF Rep w W p s F → Calls Tryd.prog 13 #[ptL p, .int .i64 n] W fun e w' => ∃ F', e = .returned (.tuple #[]) ∧ LgF Rep w w' p (crashS s n) F' ∧ CarryA w W F w' F') := fun W p s F n h => lgF_crash hR h n
  have HAL : Hid (∀ W p s F, LgF Rep w W p s F → Calls Tryd.prog 14 #[ptL p] W fun e w' => ∃ v', e = .returned v' ∧ IsOps w' v' s.hist ∧ Below W.heap.size W w') := fun W p s F h => lgF_all hR h
  have HVA : Hid (∀ W p s F, LgF Rep w W p s F → Calls Tryd.prog 8 #[ptL p] W fun e w' => ∃ v', e = .returned v' ∧ IsInts w' v' (valsL (doneL s.hist)) ∧ Below W.heap.size W w') := fun W p s F h => lgF_values hR h
  have HBY : Hid (∀ W p s F, LgF Rep w W p s F → Calls Tryd.prog 7 #[ptL p] W fun e w' => e = .returned (.int .i64 s.bytes) ∧ Below W.heap.size W w') := fun W p s F h => lgF_bytes hR h
  have HSA : Hid (∀ W p s F, LgF Rep w W p s F → Calls Tryd.prog 15 #[ptL p] W fun e w' => e = .returned (.int .i64 s.safe) ∧ Below W.heap.size W w') := fun W p s F h => lgF_safe hR h
  have HKB : Hid (∀ W W1 p s F dv mv, KpF Rep w W p s F dv mv → Below W.heap.size W W1 → KpF Rep w W1 p s F dv mv) := fun W W1 p s F dv mv h hb => h.below hR hb
  have HARG : Hid (∀ W, Below w.heap.size w W → IsInts W (.slice fad fa.length fcap) fa ∧ IsInts W (.slice kad ke.length kcap) ke) := fun W hW => ⟨hF.below hW (Nat.le_refl _), hK.below hW (Nat.le_refl _)⟩
  have HPA := hid_k (And.intro hR (And.intro hI (And.intro hS (And.intro hF (And.intro hK (And.intro hl hg))))))
  have HVV := hid_k hV
  have HKK := hid_k hKK
  have HKP := hid_k hkp
  clear hKK hkp hR hI hS hF hK hg hV
  unfold ptL at HFA HCR HAL HVA HBY HSA
  dsimp only
  have h4' : (rd : Int) < 4 := by omega
  go_upto_if 98 with (fail)
  go_cut [18] from 95 to 278 (fun v18 V => v18 = .int .i64 at' ∧ ∃ s F, KpF Rep w V p s F dv mv)
  case first =>
    by_cases hrf : rd < fa.length
    · have hrf' : (rd : Int) < (fa.length : Int) := by omega
      obtain ⟨hf, -⟩ := HARG.out V HKP.out.lg.old
      obtain ⟨ad, b, off, cap, hv, ha, -, -, hc⟩ := hf
      simp only [Value.slice.injEq] at hv
      obtain ⟨rfl, -, rfl⟩ := hv
      obtain rfl := ha (by omega)
      have c0 := hc rd hrf
      obtain ⟨x, hx⟩ : ∃ x, fa.getD rd 0 = x := ⟨_, rfl⟩
      rw [hx] at c0
      have HC := hid_k (HFA.out V p s F x HKP.out.lg)
      clear hx hc ha
      go_wp2_with fail
      refine HC.out.mono ?_
      rintro e V ⟨F', rfl, hlg, hca⟩
      have hk2 := HKP.out.carry hlg hca rfl rfl
      go_wp2_with fail
      go_meet
      case rel => exact ⟨rfl, _, F', hk2⟩
    · have hrf' : ¬ (rd : Int) < (fa.length : Int) := by omega
      go_wp2_with fail
      go_meet
      case rel => exact ⟨rfl, s, F, HKP.out⟩
  case rest =>
    obtain ⟨rfl, s1, F1, hk1⟩ := hcut
    have HK1 := hid_k hk1
    clear hk1 HKP
    go_upto_block 2 with (fail)
    obtain ⟨q1, q2, q3, q4, q5, q6, q7⟩ := HPA.out
    refine kin_blk q1 l sy fa ke lad sad fad kad lcap scap fcap kcap w q2 q3 q4 q5 q6 q7 p s1 F1 _ _ at' hat _ HK1.out ?_
    clear q1 q2 q3 q4 q5 q6 q7
    intro x8 x16 x17 x18 x20 x21 x22 x23 x24 x25 x26 x105 x106 x107 x108 x109 x110 x111 x112 x113 x114 x115 x116 x117 x118 x119 x120 x121 x122 x123 x124 x125 x126 x127 x128 x129 x130 x131 x132 x133 x134 x135 x136 x137 x138 x139 x140 x141 x142 x143 x144 x145 x146 x147 x148 x149 x150 x151 x152 x153 x154 x155 x156 x157 x158 x159 x160 x161 x162 x163 x164 x165 x166 x167 x168 x169 x170 x171 x172 x173 x174 x175 x176 x177 x178 x179 x180 x181 x182 x183 x184 x185 x186 x187 x188 V1 hex
    obtain ⟨s2, F2, a, ha, e18, hk2⟩ := hex
    subst e18
    have HK2 := hid_k hk2
    clear hk2 HK1
    go_upto_if 192 with (fail)
    go_cut [27] from 189 to 278 (fun v27 V => ∃ x : Int, v27 = .int .i64 x ∧ KpF Rep w V p s2 F2 x16 x17)
    case first =>
      by_cases hrk : rd < ke.length
      · have hrk' : (rd : Int) < (ke.length : Int) := by omega
        obtain ⟨-, hkI⟩ := HARG.out V1 HK2.out.lg.old
        obtain ⟨ad, b, off, cap, hv, ha, -, -, hc⟩ := hkI
        simp only [Value.slice.injEq] at hv
        obtain ⟨rfl, -, rfl⟩ := hv
        obtain rfl := ha (by omega)
        have c0 := hc rd hrk
        obtain ⟨x, hx⟩ : ∃ x, ke.getD rd 0 = x := ⟨_, rfl⟩
        rw [hx] at c0
        clear hx hc ha
        go_wp2_with fail
        go_meet
        case rel => exact ⟨x, rfl, HK2.out⟩
      · have hrk' : ¬ (rd : Int) < (ke.length : Int) := by omega
        go_wp2_with fail
        go_meet
        case rel => exact ⟨0, rfl, HK2.out⟩
    case rest =>
      clear HK2
      obtain ⟨x, rfl, hkp⟩ := hcut
      obtain ⟨g, mc, rfl, hmc, -, -⟩ := marks_at hkp
      obtain ⟨dad, dcap, rfl, hdc⟩ := own_shape hkp.done.1
      have HK3 := hid_k hkp
      have HKO := hid_k hkp.lg.ok
      have h40 := chk40 hkp.lg.ok.right
      have hbB := hkp.lg.ok.bytesB
      have hsB := hkp.lg.ok.safeB
      have hhi := high_is hkp.lg.ok x
      have hml := mark_left hkp.lg.ok x
      have hmn := marks_len hkp.lg.ok
      obtain ⟨N, hN⟩ : ∃ N, s2.hist.length = N := ⟨_, rfl⟩
      rw [hN] at hdc hmc h40 hml hmn ⊢
      have HC1 := hid_k (HBY.out wc p s2 F2 hkp.lg)
      clear hkp
      obtain ⟨B, hB⟩ : ∃ B, s2.bytes = B := ⟨_, rfl⟩
      obtain ⟨S, hS⟩ : ∃ S, s2.safe = S := ⟨_, rfl⟩
      rw [hB] at hbB hsB hhi HC1
      rw [hS] at hsB hhi
      go_wp2_with fail
      refine HC1.out.mono ?_
      rintro e w1 ⟨rfl, hb1⟩
      dsimp only
      have HK4 := hid_k (HKB.out _ _ p s2 F2 _ _ HK3.out hb1)
      have HC2 := hid_k (HSA.out _ p s2 F2 HK4.out.lg)
      rw [hS] at HC2
      clear hb1 HC1 HK3
      go_wp2_with fail
      refine HC2.out.mono ?_
      rintro e w2 ⟨rfl, hb2⟩
      dsimp only
      have HK5 := hid_k (HKB.out _ _ p s2 F2 _ _ HK4.out hb2)
      have HC3 := hid_k (HCR.out _ p s2 F2 x HK5.out.lg)
      clear hb2 HC2 HK4
      go_wp2_with fail
      refine HC3.out.mono ?_
      rintro e w3 ⟨F3, rfl, hlg, hca⟩
      dsimp only
      have HK6 := hid_k (HK5.out.crash hlg hca)
      have HMC := hid_k (mark_cells (hca _ _ _ _ _ HK5.out.marks).1 (by rw [hN]; exact hmn))
      rw [hN] at HMC
      obtain ⟨H, hH⟩ : ∃ H, highL s2 x = H := ⟨_, rfl⟩
      rw [hH] at hhi hml
      unfold highI at hhi
      clear HC3 HK5 hlg hca
      go_upto_region 49 with (fail)
      go_cut [213] from 204 to 278 (fun c W => c = .bool (decide (0 < x ∧ x < (B : Int) - (S : Int))) ∧ W = w3)
      case first =>
        have hwr : IntKind.i64.wrap ((B : Int) - (S : Int)) = (B : Int) - (S : Int) := by rw [IntKind.wrap_i64]; omega
        by_cases hx0 : 0 < x
        · by_cases hx1 : x < (B : Int) - (S : Int)
          · go_wp2_with fail
            go_meet
            case rel => exact ⟨by simp [hx0, hx1], rfl⟩
          · go_wp2_with fail
            go_meet
            case rel => exact ⟨by simp [hx1], rfl⟩
        · go_wp2_with fail
          go_meet
          case rel => exact ⟨by simp [hx0], rfl⟩
      case rest =>
        obtain ⟨rfl, hw⟩ := hcut
        rw [hw]
        go_upto_if 213 with (fail)
        go_cut [30] from 204 to 278 (fun v30 W => v30 = .int .i64 (H : Int) ∧ W = w3)
        case first =>
          by_cases hx0 : 0 < x
          · by_cases hx1 : x < (B : Int) - (S : Int)
            · rw [decide_eq_true ⟨hx0, hx1⟩]
              rw [if_pos ⟨hx0, hx1⟩] at hhi
              have hwr : IntKind.i64.wrap ((S : Int) + x) = (S : Int) + x := by rw [IntKind.wrap_i64]; omega
              go_wp2_with fail
              go_meet
              case rel => exact ⟨by rw [← hhi], rfl⟩
            · rw [decide_eq_false (fun h => hx1 h.2)]
              rw [if_neg (fun h => hx1 h.2), if_pos hx0] at hhi
              go_wp2_with fail
              go_meet
              case rel => exact ⟨by rw [← hhi], rfl⟩
          · rw [decide_eq_false (fun h => hx0 h.1)]
            rw [if_neg (fun h => hx0 h.1), if_neg hx0] at hhi
            go_wp2_with fail
            go_meet
            case rel => exact ⟨by rw [← hhi], rfl⟩
        case rest =>
          clear hw hhi
          obtain ⟨rfl, hw⟩ := hcut
          rw [hw]
          clear hw
          go_upto_block 4 with (fail)
          refine kmark_blk g (N + 1) mc H (marksL s2) (by omega) _ HMC.out ?_
          intro y32 y220 y221 y222 y223 y224 y225 y226 y227 y228 y229 y230 y231 y232
          rw [hml]
          clear hml HMC
          obtain ⟨c1, c2, c3, c4⟩ := crash_cut HKO.out x
          obtain ⟨m0, hm0⟩ : ∃ m, (marksL (crashS s2 x)).getD (leftL s2 x) 0 = m := ⟨_, rfl⟩
          rw [hm0] at c3 c4
          have hkp := HK6.out
          have hmk := (marks_at hkp)
          obtain ⟨K0, hK0⟩ : ∃ k, leftL s2 x = k := ⟨_, rfl⟩
          obtain ⟨s3, hs3⟩ : ∃ s, crashS s2 x = s := ⟨_, rfl⟩
          rw [hs3] at c1 c3 c4 hkp hmk hm0
          rw [hK0] at c1 c2 hkp hm0 ⊢
          rw [hN] at c2
          obtain ⟨g', mc', hv', -, hgl, hcells⟩ := hmk
          simp only [Value.slice.injEq, Option.some.injEq, Addr.mk.injEq] at hv'
          obtain ⟨⟨rfl, -, -⟩, -, rfl⟩ := hv'
          have cm := hcells K0 (by omega)
          rw [hm0] at cm
          have hcO := cutO_run (ad := dad) (n := N) (cap := dcap) (k := K0) (by omega)
          have hcI : ∀ W : World, (Instr.sliceAt 25 (.slice (some ⟨g, 0, none⟩) (N + 1) mc) none (some (.int .i64 ((K0 : Int) + 1))) none).run Tryd.prog W = .ok (.slice (some ⟨g, 0, none⟩) (K0 + 1) mc) W := fun W => by
            have := cutI_run (ad := some ⟨g, 0, none⟩) (n := N + 1) (cap := mc) (k := K0 + 1) (by omega) W
            rw [show ((K0 + 1 : Nat) : Int) = (K0 : Int) + 1 by omega] at this
            exact this
          have hwr : IntKind.i64.wrap ((K0 : Int) + 1) = (K0 : Int) + 1 := by rw [IntKind.wrap_i64]; omega
          have HKP := hid_k hkp
          have hdn : IsOps w3 (.slice dad K0 dcap) s3.hist := isOps_own hkp.done.1 rfl
          have h40' := chk40 hkp.lg.ok.right
          have HC4 := hid_k (HVV.out s3.hist _ w3 hdn hkp.lg.ok.right)
          clear hkp hcells hm0 HK6 hdn
          go_wp2_with fail
          refine HC4.out.mono ?_
          rintro e w4 ⟨v4, rfl, hI4, hb4⟩
          dsimp only
          have HKQ := hid_k (HKB.out _ _ p s3 F3 _ _ HKP.out hb4)
          have cm4 := (hb4.cell (p := ⟨g, K0, none⟩) hgl).trans cm
          obtain ⟨ad4, cap4, rfl⟩ := intsShapeK hI4
          have HV4 : Hid (∀ W v, Below w4.heap.size w4 W → IsInts W v (valsL (doneL s3.hist)) → Calls Tryd.prog 19 #[v, .slice ad4 (valsL (doneL s3.hist)).length cap4] W fun e w' => ∃ b, e = .returned b ∧ b = .bool true ∧ Below w4.heap.size w4 w') := fun W v hW hv => (same_ints _ v _ W hv (hI4.below hW (Nat.le_refl _)) (vals_few _)).mono fun _ _ ⟨h1, h2⟩ => ⟨_, h1, rfl, hW.trans (h2.mono hW.size)⟩
          have HO4 : Hid (∀ W v, Below w4.heap.size w4 W → IsOps W v s3.hist → Calls Tryd.prog 17 #[v, .slice dad K0 dcap] W fun e w' => ∃ b, e = .returned b ∧ b = .bool true ∧ Below w4.heap.size w4 w') := fun W v hW hv => by
            have hdn : IsOps w4 (.slice dad K0 dcap) s3.hist := isOps_own HKQ.out.done.1 rfl
            have := same_ops2 s3.hist s3.hist v _ W hv (hdn.below hW (Nat.le_refl _)) (by omega) (by omega)
            rw [decide_eq_true rfl] at this
            exact this.mono fun _ _ ⟨h1, h2⟩ => ⟨_, h1, rfl, hW.trans (h2.mono hW.size)⟩
          have HA4 : Hid (∀ W, Below w4.heap.size w4 W → Calls Tryd.prog 14 #[.pointer (some ⟨p, 0, none⟩)] W fun e w' => ∃ v, e = .returned v ∧ IsOps w' v s3.hist ∧ Below w4.heap.size w4 w') := fun W hW => (HAL.out W p s3 F3 (HKB.out _ _ p s3 F3 _ _ HKQ.out hW).lg).mono fun _ _ ⟨v, h1, h2, h3⟩ => ⟨v, h1, h2, hW.trans (h3.mono hW.size)⟩
          have HW4 : Hid (∀ W, Below w4.heap.size w4 W → Calls Tryd.prog 8 #[.pointer (some ⟨p, 0, none⟩)] W fun e w' => ∃ v, e = .returned v ∧ IsInts w' v (valsL (doneL s3.hist)) ∧ Below w4.heap.size w4 w') := fun W hW => (HVA.out W p s3 F3 (HKB.out _ _ p s3 F3 _ _ HKQ.out hW).lg).mono fun _ _ ⟨v, h1, h2, h3⟩ => ⟨v, h1, h2, hW.trans (h3.mono hW.size)⟩
          have HY4 : Hid (∀ W, Below w4.heap.size w4 W → Calls Tryd.prog 7 #[.pointer (some ⟨p, 0, none⟩)] W fun e w' => e = .returned (.int .i64 (m0 : Int)) ∧ Below w4.heap.size w4 w') := fun W hW => by
            have := HBY.out W p s3 F3 (HKB.out _ _ p s3 F3 _ _ HKQ.out hW).lg
            rw [c3] at this
            exact this.mono fun _ _ ⟨h1, h3⟩ => ⟨h1, hW.trans (h3.mono hW.size)⟩
          have HS4 : Hid (∀ W, Below w4.heap.size w4 W → Calls Tryd.prog 15 #[.pointer (some ⟨p, 0, none⟩)] W fun e w' => e = .returned (.int .i64 (m0 : Int)) ∧ Below w4.heap.size w4 w') := fun W hW => by
            have := HSA.out W p s3 F3 (HKB.out _ _ p s3 F3 _ _ HKQ.out hW).lg
            rw [c4] at this
            exact this.mono fun _ _ ⟨h1, h3⟩ => ⟨h1, hW.trans (h3.mono hW.size)⟩
          have HCM : Hid (∀ W, Below w4.heap.size w4 W → W.cell? ⟨g, K0, none⟩ = some (.int .i64 (m0 : Int))) := fun W hW => (hW.cell (p := ⟨g, K0, none⟩) (World.block_lt_of_cell? w4 _ cm4)).trans cm4
          have hW0 : Below w4.heap.size w4 w4.drew := (Below.refl _ w4).drew
          have hk0 : (K0 : Int) < (K0 : Int) + 1 := by omega
          have hkn : ¬ (K0 : Int) < 0 := by omega
          obtain ⟨LV, hLV⟩ : ∃ n, (valsL (doneL s3.hist)).length = n := ⟨_, rfl⟩
          rw [hLV] at HV4 ⊢
          clear hI4 hb4 HKP HC4 hLV hcO hcI hwr cm c1 c3 c4
          go_upto_region 62 with (fail)
          refine kreg_blk (fun W v => IsOps W v s3.hist) (fun W v => IsInts W v (valsL (doneL s3.hist))) p g K0 mc m0 _ _ _ HA4.out HO4.out HW4.out HV4.out HY4.out HS4.out cm4 ?_
          intro z245 z246 z247 z248 z249 z250 z251 z252 z253 z254 z255 z256 z257 z258 z259 z260 z261 z262 z263 z264 z265 z266 z267 z268 z269 z270 z271 z272 z273 z274 z275 z276 z277 z278 V' e278 hb10
          subst e278
          have HKZ := hid_k (HKB.out _ _ p s3 F3 _ _ HKQ.out hb10)
          clear hb10
          go_wp2_with fail
          exact HKK.out _ _ _ _ _ _ _ _ _ _ _ _ _ _ _ _ _ _ _ _ _ _ _ _ _ _ _ _ _ _ _ _ _ _ _ _ _ _ _ _ _ _ _ _ _ _ _ _ _ _ _ _ _ _ _ _ _ _ _ _ _ _ _ _ _ _ _ _ _ _ _ _ _ _ _ _ _ _ _ _ _ _ _ _ _ _ _ _ _ _ _ _ _ _ _ _ _ _ _ _ _ _ _ _ _ _ _ _ _ _ _ _ _ _ _ _ _ _ _ _ _ _ _ _ _ _ _ _ _ _ _ _ _ _ _ _ _ _ _ _ _ _ _ _ _ _ _ _ _ _ _ _ _ _ _ _ _ _ _ _ _ _ _ _ _ _ _ _ _ _ _ _ _ _ _ _ _ _ _ _ _ _ _ _ _ _ _ _ _ _ _ _ _ _ _ _ _ _ _ _ _ _ _ _ ⟨s3, F3, a, ha, rfl, HKZ.out⟩
end Go.Proofs.YtggieffpehbfaaaDoor
