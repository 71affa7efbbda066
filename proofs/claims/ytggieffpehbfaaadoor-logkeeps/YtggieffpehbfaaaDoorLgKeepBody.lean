/-
  PROVED HERE: lanelaw3.LogKeeps' inner round: a Log, its history as a row of one's own and where its records end stand so again when an op has come, whatever becomes of it.
  Conditions: package log's contract (LogW); the variable errors.errorType lies as it should (EtAt).
-/
import Derived.Test.YtggieffpehbfaaaDoorLgKeepB
import Derived.Test.YtggieffpehbfaaaDoorLgBlk
import Derived.Deep.CutBlock
namespace Go.Proofs.YtggieffpehbfaaaDoor
open Go.RowKit

set_option maxHeartbeats 64000000 in
set_option maxRecDepth 1000000 in
theorem kbody_blk {K : Act → World → Prop} {Q' : Exit → Act → World → Prop} {c4 c5 c6 c7 c8 c9 c10 c11 c12 c13 c14 c19 c20 c21 c22 c23 c24 c25 c26 c27 c28 c29 c30 c31 c32 c33 c34 c35 c36 c37 c38 c39 c40 c41 c42 c43 c44 c45 c46 c47 c48 c49 c50 c51 c52 c53 c54 c55 c56 c57 c58 c59 c60 c61 c62 c63 c64 c65 c66 c67 c68 c69 c70 c71 c72 c73 c74 c75 c76 c77 c78 c79 c80 c81 c82 c83 c84 c85 c86 c87 c88 c89 c90 c91 c92 c93 c94 c95 c96 c97 c98 c99 c100 c101 c102 c103 c104 c105 c106 c107 c108 c109 c110 c111 c112 c113 c114 c115 c116 c117 c118 c119 c120 c121 c122 c123 c124 c125 c126 c127 c128 c129 c130 c131 c132 c133 c134 c135 c136 c137 c138 c139 c140 c141 c142 c143 c144 c145 c146 c147 c148 c149 c150 c151 c152 c153 c154 c155 c156 c157 c158 c159 c160 c161 c162 c163 c164 c165 c166 c167 c168 c169 c170 c171 c172 c173 c174 c175 c176 c177 c178 c179 c180 c181 c182 c183 c184 c185 c186 c187 c188 c189 c190 c191 c192 c193 c194 c195 c196 c197 c198 c199 c200 c201 c202 c203 c204 c205 c206 c207 c208 c209 c210 c211 c212 c213 c214 c215 c216 c217 c218 c219 c220 c221 c222 c223 c224 c225 c226 c227 c228 c229 c230 c231 c232 c233 c234 c235 c236 c237 c238 c239 c240 c241 c242 c243 c244 c245 c246 c247 c248 c249 c250 c251 c252 c253 c254 c255 c256 c257 c258 c259 c260 c261 c262 c263 c264 c265 c266 c267 c268 c269 c270 c271 c272 c273 c274 c275 c276 c277 c278 : Value} {Rep : World → Nat → Lg → (Nat → Prop) → Prop} (hR : LogW Rep) (l : List Op3) (sy fa ke : List Int) (lad sad fad kad : Option Addr) (lcap scap fcap kcap : Nat) (w : World) (hI : IsOps w (.slice lad l.length lcap) l) (hS : IsInts w (.slice sad sy.length scap) sy) (hF : IsInts w (.slice fad fa.length fcap) fa) (hK : IsInts w (.slice kad ke.length kcap) ke) (hl : l.length ≤ 5864062014805) (hg : EtAt w) (p : Nat) (s : Lg) (F : Nat → Prop) (dv mv : Value) (at' : Nat) (hal : at' < l.length) (V : World) (hkp : KpF Rep w V p s F dv mv)
    (hKK : ∀ (u16 u17 u18 u21 u22 u23 u24 u25 u26 u115 u116 u117 u118 u119 u120 u121 u122 u123 u124 u125 u126 u127 u128 u129 u130 u131 u132 u133 u134 u135 u136 u137 u138 u139 u140 u141 u142 u143 u144 u145 u146 u147 u148 u149 u150 u151 u152 u153 u154 u155 u156 u157 u158 u159 u160 u161 u162 u163 u164 u165 u166 u167 u168 u169 u170 u171 u172 u173 u174 u175 u176 u177 u178 u179 u180 u181 u182 u183 u184 u185 u186 u187 u188 : Value) (V' : World), u18 = .int .i64 ((at' : Int) + 1) → (∃ s F, KpF Rep w V' p s F u16 u17) → K ⟨#[.slice lad l.length lcap, .slice sad sy.length scap, .slice fad fa.length fcap, .slice kad ke.length kcap, c4, c5, c6, c7, c8, c9, c10, c11, c12, c13, c14, .pointer (some ⟨p, 0, none⟩), u16, u17, u18, c19, c20, u21, u22, u23, u24, u25, u26, c27, c28, c29, c30, c31, c32, c33, c34, c35, c36, c37, c38, c39, c40, c41, c42, c43, c44, c45, c46, c47, c48, c49, c50, c51, c52, c53, c54, c55, c56, c57, c58, c59, c60, c61, c62, c63, c64, c65, c66, c67, c68, c69, c70, c71, c72, c73, c74, c75, c76, c77, c78, c79, c80, c81, c82, c83, c84, c85, c86, c87, c88, c89, c90, c91, c92, c93, c94, c95, c96, c97, c98, c99, c100, c101, c102, c103, c104, c105, c106, c107, c108, c109, c110, c111, c112, c113, c114, u115, u116, u117, u118, u119, u120, u121, u122, u123, u124, u125, u126, u127, u128, u129, u130, u131, u132, u133, u134, u135, u136, u137, u138, u139, u140, u141, u142, u143, u144, u145, u146, u147, u148, u149, u150, u151, u152, u153, u154, u155, u156, u157, u158, u159, u160, u161, u162, u163, u164, u165, u166, u167, u168, u169, u170, u171, u172, u173, u174, u175, u176, u177, u178, u179, u180, u181, u182, u183, u184, u185, u186, u187, u188, c189, c190, c191, c192, c193, c194, c195, c196, c197, c198, c199, c200, c201, c202, c203, c204, c205, c206, c207, c208, c209, c210, c211, c212, c213, c214, c215, c216, c217, c218, c219, c220, c221, c222, c223, c224, c225, c226, c227, c228, c229, c230, c231, c232, c233, c234, c235, c236, c237, c238, c239, c240, c241, c242, c243, c244, c245, c246, c247, c248, c249, c250, c251, c252, c253, c254, c255, c256, c257, c258, c259, c260, c261, c262, c263, c264, c265, c266, c267, c268, c269, c270, c271, c272, c273, c274, c275, c276, c277, c278], []⟩ V') :
    Code.wp Tryd.prog ((Tryd.f5.body.bind (blkOfK 3)).getD .skip) (Exit.then K Q') ⟨#[.slice lad l.length lcap, .slice sad sy.length scap, .slice fad fa.length fcap, .slice kad ke.length kcap, c4, c5, c6, c7, c8, c9, c10, c11, c12, c13, c14, .pointer (some ⟨p, 0, none⟩), dv, mv, .int .i64 (at' : Int), c19, c20, c21, c22, c23, c24, c25, c26, c27, c28, c29, c30, c31, c32, c33, c34, c35, c36, c37, c38, c39, c40, c41, c42, c43, c44, c45, c46, c47, c48, c49, c50, c51, c52, c53, c54, c55, c56, c57, c58, c59, c60, c61, c62, c63, c64, c65, c66, c67, c68, c69, c70, c71, c72, c73, c74, c75, c76, c77, c78, c79, c80, c81, c82, c83, c84, c85, c86, c87, c88, c89, c90, c91, c92, c93, c94, c95, c96, c97, c98, c99, c100, c101, c102, c103, c104, c105, c106, c107, c108, c109, c110, c111, c112, c113, c114, c115, c116, c117, c118, c119, c120, c121, c122, c123, c124, c125, c126, c127, c128, c129, c130, c131, c132, c133, c134, c135, c136, c137, c138, c139, c140, c141, c142, c143, c144, c145, c146, c147, c148, c149, c150, c151, c152, c153, c154, c155, c156, c157, c158, c159, c160, c161, c162, c163, c164, c165, c166, c167, c168, c169, c170, c171, c172, c173, c174, c175, c176, c177, c178, c179, c180, c181, c182, c183, c184, c185, c186, c187, c188, c189, c190, c191, c192, c193, c194, c195, c196, c197, c198, c199, c200, c201, c202, c203, c204, c205, c206, c207, c208, c209, c210, c211, c212, c213, c214, c215, c216, c217, c218, c219, c220, c221, c222, c223, c224, c225, c226, c227, c228, c229, c230, c231, c232, c233, c234, c235, c236, c237, c238, c239, c240, c241, c242, c243, c244, c245, c246, c247, c248, c249, c250, c251, c252, c253, c254, c255, c256, c257, c258, c259, c260, c261, c262, c263, c264, c265, c266, c267, c268, c269, c270, c271, c272, c273, c274, c275, c276, c277, c278], []⟩ V := by
  conv => arg 2; whnf
  have HDO : Hid (∀ W p s F o, LgF Rep w W p s F → Calls Tryd.prog 10 #[ptL p, opL o] W fun e w' => ∃ r s' F', DoR s o r s' ∧ e = .returned (errV r) ∧ LgF Rep w w' p s' F' ∧ CarryA w W F w' F') := fun W p s F o h => lgF_do hR h o
  have HSY : Hid (∀ W p s F, LgF Rep w W p s F → Calls Tryd.prog 12 #[ptL p] W fun e w' => ∃ F', e = .returned (errV (syncE s)) ∧ LgF Rep w w' p (syncS s) F' ∧ CarryA w W F w' F') := fun W p s F h => lgF_sync hR h
  have HAL : Hid (∀ W p s F, LgF Rep w W p s F → Calls Tryd.prog 14 #[ptL p] W fun e w' => ∃ v', e = .returned v' ∧ IsOps w' v' s.hist ∧ Below W.heap.size W w') := fun W p s F h => lgF_all hR h
  have HBY : Hid (∀ W p s F, LgF Rep w W p s F → Calls Tryd.prog 7 #[ptL p] W fun e w' => e = .returned (.int .i64 s.bytes) ∧ Below W.heap.size W w') := fun W p s F h => lgF_bytes hR h
  have HSA : Hid (∀ W p s F, LgF Rep w W p s F → Calls Tryd.prog 15 #[ptL p] W fun e w' => e = .returned (.int .i64 s.safe) ∧ Below W.heap.size W w') := fun W p s F h => lgF_safe hR h
  have HLB : Hid (∀ W W1 p s F, LgF Rep w W p s F → Below W.heap.size W W1 → LgF Rep w W1 p s F) := fun W W1 p s F h hb => h.below hR hb
  have HKB : Hid (∀ W W1 p s F dv mv, KpF Rep w W p s F dv mv → Below W.heap.size W W1 → KpF Rep w W1 p s F dv mv) := fun W W1 p s F dv mv h hb => h.below hR hb
  have HER : Hid (∀ W n m, Below w.heap.size w W → Calls Tryd.prog 11 #[.iface 48 (.int .i64 n), .int .i64 m] W fun r w' => r = .returned (.bool (n == m)) ∧ Below W.heap.size W w') := fun W n m hW => (error_hit n m W (hg.below hW hg.lt)).mono fun _ _ ⟨h1, h2⟩ => ⟨by rw [h1], h2⟩
  have HRG := hid_k hR
  have HARG : Hid (∀ W, Below w.heap.size w W → IsOps W (.slice lad l.length lcap) l ∧ IsInts W (.slice sad sy.length scap) sy ∧ IsInts W (.slice fad fa.length fcap) fa ∧ IsInts W (.slice kad ke.length kcap) ke) := fun W hW => ⟨hI.below hW (Nat.le_refl _), hS.below hW (Nat.le_refl _), hF.below hW (Nat.le_refl _), hK.below hW (Nat.le_refl _)⟩
  have HE0 : Hid (errV 0 = .nilIface) := if_pos rfl
  clear hR hI hS hF hK hg
  unfold ptL opL at HDO
  unfold ptL at HSY HAL HBY HSA
  obtain ⟨i0, hi0, hz0, hs0, hy0⟩ := info_parts infoOp
  have HIO : Hid (Tryd.prog.info? 32 = some i0 ∧ i0.zero = some (.agg #[.int .i64 0, .int .i64 0, .int .i64 0]) ∧ i0.size = 3 ∧ i0.bytes = 24) := ⟨hi0, hz0, hs0, hy0⟩
  obtain ⟨i1, hi0, hz0, hs0, hy0⟩ := info_parts infoInt
  have HII : Hid (Tryd.prog.info? 3 = some i1 ∧ i1.zero = some (.int .i64 0) ∧ i1.size = 1 ∧ i1.bytes = 8) := ⟨hi0, hz0, hs0, hy0⟩
  clear hi0 hz0 hs0 hy0
  have HKK := hid_k hKK
  have HKP2 := hid_k hkp
  clear hKK hkp
  have hal' : (at' : Int) < (l.length : Int) := by omega
  dsimp only
  go_upto_region 22 with (fail)
  go_cut [137] from 115 to 188 (fun c V => c = .bool false ∧ ∃ s F, KpF Rep w V p s F dv mv)
  case first =>
    by_cases hsl : at' < sy.length
    · have hsl' : (at' : Int) < (sy.length : Int) := by omega
      obtain ⟨-, hsI, -, -⟩ := HARG.out V HKP2.out.lg.old
      obtain ⟨ad, b, off, cap, hv, ha, -, -, hc⟩ := hsI
      simp only [Value.slice.injEq] at hv
      obtain ⟨rfl, -, rfl⟩ := hv
      obtain rfl := ha (by omega)
      have c0 := hc at' hsl
      obtain ⟨x, hx⟩ : ∃ x, sy.getD at' 0 = x := ⟨_, rfl⟩
      rw [hx] at c0
      clear hx hc ha
      cases hx1 : (x == 1) with
      | false =>
        go_wp2_with fail
        go_meet
        case rel => exact ⟨rfl, s, F, HKP2.out⟩
      | true =>
        have HC := hid_k (HSY.out V p s F HKP2.out.lg)
        rcases sync_two s with h0 | h6
        · rw [h0, HE0.out] at HC
          have HSF := hid_k (sync_safe h0)
          clear h0
          go_wp2_with fail
          refine HC.out.mono ?_
          rintro e V1 ⟨F', rfl, hlg, hca⟩
          have HKV := hid_k (HKP2.out.carry hlg hca (sync_same s).1 (sync_same s).2)
          have HC2 := hid_k (HSA.out V1 p _ F' HKV.out.lg)
          rw [HSF.out] at HC2
          clear hlg hca c0
          go_wp2_with fail
          refine HC2.out.mono ?_
          rintro e V2 ⟨rfl, hb2⟩
          have HKV2 := hid_k (HKB.out V1 V2 p _ F' _ _ HKV.out hb2)
          have HC3 := hid_k (HBY.out V2 p _ F' HKV2.out.lg)
          clear hb2 HC2
          go_wp2_with fail
          refine HC3.out.mono ?_
          rintro e V3 ⟨rfl, hb3⟩
          have hk3 := HKB.out V2 V3 p _ F' _ _ HKV2.out hb3
          clear hb3 HC3
          go_wp2_with fail
          go_meet
          case rel => exact ⟨rfl, _, F', hk3⟩
        · have h66 : errV 6 = .iface 48 (.int .i64 6) := rfl
          rw [h6, h66] at HC
          clear h6 h66
          go_wp2_with fail
          refine HC.out.mono ?_
          rintro e V1 ⟨F', rfl, hlg, hca⟩
          have hk3 := HKP2.out.carry hlg hca (sync_same s).1 (sync_same s).2
          clear hlg hca c0
          go_wp2_with fail
          go_meet
          case rel => exact ⟨rfl, _, F', hk3⟩
    · have hsl' : ¬ (at' : Int) < (sy.length : Int) := by omega
      go_wp2_with fail
      go_meet
      case rel => exact ⟨rfl, s, F, HKP2.out⟩
  case rest =>
    clear HKP2
    obtain ⟨rfl, s, F, hkp⟩ := hcut
    have HK3 := hid_k hkp
    clear hkp
    have hsl := chk40 HK3.out.lg.ok.right
    have hbb := HK3.out.lg.ok.bytesB
    obtain ⟨dad, dcap, rfl, hdc⟩ := own_shape HK3.out.done.1
    have HSR := hid_k (srcAt_own HK3.out.done.1)
    have HDL : Hid (s.hist.length ≤ dcap) := hdc
    obtain ⟨hn, hhn⟩ : ∃ n, s.hist.length = n := ⟨_, rfl⟩
    have HHN := hid_k hhn
    rw [hhn] at HSR hsl ⊢
    have HOLD := hid_k HK3.out.lg.old
    clear hdc hhn
    go_upto_region 26 with (at_builtin; refine wpList_append_src wc rfl (.tmp 138) (.tmp 139) 36 rfl wc.heap.size 32 i0 (.agg #[.int .i64 0, .int .i64 0, .int .i64 0]) 3 24 Tryd.underlying36 HIO.out.1 HIO.out.2.1 HIO.out.2.2.1 HIO.out.2.2.2 rfl (by decide) (.slice none 0 0) 0 [] rfl (World.ownsRow_nil _ _ _ _) (.slice dad hn dcap) hn (flat s.hist) rfl HSR.out (flat_one _) (by unfold maxLen; omega) (by omega) (Nat.le_refl _) ?_; intro v21 w2 hown2 hgr2 hap2)
    simp only [Nat.zero_add, List.nil_append] at hown2
    have hb2 : Below wc.heap.size wc w2 := (Below.refl _ wc).grown hgr2 (Nat.le_refl _) (fun q hq => by simp [Value.ownBlock] at hq)
    have HOW2 := hid_k hown2
    have HW2 := hid_k hb2
    obtain ⟨hlI, -, -, -⟩ := HARG.out w2 (HOLD.out.trans (hb2.mono HOLD.out.size))
    obtain ⟨ad', b, off, cap', hv', ha', -, -, hc'⟩ := hlI
    simp only [Value.slice.injEq] at hv'
    obtain ⟨rfl, -, rfl⟩ := hv'
    obtain rfl := ha' (by omega)
    obtain ⟨⟨t, a, x⟩, ho⟩ : ∃ o : Op3, l.getD at' (0, 0, 0) = o := ⟨_, rfl⟩
    have HOP : Hid (∀ V, Below w.heap.size w V → V.cell? ⟨b, off + at' * 3, none⟩ = some (.int .i64 t) ∧ V.cell? ⟨b, off + at' * 3 + 1, none⟩ = some (.int .i64 a) ∧ V.cell? ⟨b, off + at' * 3 + 2, none⟩ = some (.int .i64 x)) := fun V hV => by
      obtain ⟨hlI, -, -, -⟩ := HARG.out V hV
      obtain ⟨ad2, b2, off2, cap2, hv2, ha2, -, -, hc2⟩ := hlI
      simp only [Value.slice.injEq] at hv2
      obtain ⟨e1, -, -⟩ := hv2
      have e2 := ha2 (by omega)
      rw [← e1] at e2
      simp only [Option.some.injEq, Addr.mk.injEq, and_true] at e2
      obtain ⟨rfl, rfl⟩ := e2
      have := hc2 at' hal
      rw [ho] at this
      exact this
    obtain ⟨c0, c1, c2⟩ := HOP.out w2 (HOLD.out.trans (hb2.mono HOLD.out.size))
    have hbl := World.block_lt_of_cell? w2 _ c0
    simp only at hbl
    have hs2 := hb2.size
    clear ho hc' ha' hown2 hgr2 hap2 hb2 HSR
    go_upto_region 27 with (at_builtin; refine wpList_append_own _ rfl (.tmp 141) (.tmp 146) 36 rfl wc.heap.size 32 i0 (.agg #[.int .i64 0, .int .i64 0, .int .i64 0]) 3 24 Tryd.underlying36 HIO.out.1 HIO.out.2.1 HIO.out.2.2.1 HIO.out.2.2.2 rfl (by decide) v21 hn (flat s.hist) rfl (HOW2.out.alloc _) ⟨w2.heap.size, 0, none⟩ 1 1 (flat [(t, a, x)]) rfl rfl (one_at w2 t a x) (flat_one _) (by unfold maxLen; omega) (by omega) (by simp; omega) ?_; intro nv w3 hown3 hgr3 hnil3)
    rw [← flat_append] at hown3
    have hb3 : Below wc.heap.size wc w3 := (HW2.out.alloc hs2 _).grown hgr3 (by simp; omega) (fun q hq => (HOW2.out.lt q hq).1)
    have HNR := hid_k (HK3.out.lg.fresh HRG.out hown3 HOLD.out.size)
    have HK4 := hid_k (HKB.out wc w3 p s F _ _ HK3.out hb3)
    have hlen3 : (s.hist ++ [(t, a, x)]).length = hn + 1 := by rw [List.length_append, HHN.out]; rfl
    have HRR := hid_k (refRight_any (s.hist ++ [(t, a, x)]) nv w3 (isOps_own hown3 hlen3))
    obtain ⟨nad, ncap, rfl, hnc⟩ := own_shape hown3
    obtain ⟨ec, hec⟩ : ∃ n, (chk (s.hist ++ [(t, a, x)])).2 = n := ⟨_, rfl⟩
    have HEC := hid_k hec
    rw [hec] at HRR
    clear hown3 hgr3 hnil3 hb3 hlen3 hec c0 c1 c2 hbl hs2 HOW2 HW2 HK3 hnc
    go_wp2_with fail
    refine HRR.out.mono ?_
    rintro e w4 ⟨rfl, hb4⟩
    have HK5 := hid_k (HKB.out w3 w4 p s F _ _ HK4.out hb4)
    have HN5 := hid_k (carry_below hb4 _ _ _ _ _ HNR.out)
    have HC5 := hid_k (HBY.out w4 p s F HK5.out.lg)
    clear hb4 HK4 HNR HRR
    go_wp2_with fail
    refine HC5.out.mono ?_
    rintro e w5 ⟨rfl, hb5⟩
    have HK6 := hid_k (HKB.out w4 w5 p s F _ _ HK5.out hb5)
    have HN6 := hid_k (carry_below hb5 _ _ _ _ _ HN5.out)
    have HC6 := hid_k (HDO.out w5 p s F (t, a, x) HK6.out.lg)
    obtain ⟨c0, c1, c2⟩ := HOP.out w5 HK6.out.lg.old
    obtain ⟨by0, hby0⟩ : ∃ n, s.bytes = n := ⟨_, rfl⟩
    have HBY0 := hid_k hby0
    rw [hby0] at hbb ⊢
    clear hb5 HK5 HN5 HC5 hby0
    go_wp2_with fail
    refine HC6.out.mono ?_
    rintro e w6 ⟨r, s', F', hd, rfl, hlg, hca⟩
    clear c0 c1 c2 HC6
    rcases do_two hd with ⟨hr0, e1, e2, hr6⟩ | ⟨rfl, hc0, n, hn2, hnk, rfl⟩
    · have hev : errV r = .iface 48 (.int .i64 r) := by unfold errV; rw [if_neg hr0]
      rw [hev]
      rw [HEC.out] at hr6
      have HK7 := hid_k (HK6.out.carry hlg hca e1 e2)
      have HE1 := hid_k (HER.out w6 r 6 HK7.out.lg.old)
      have HEH : Hid (s'.hist = s.hist) := e1
      go_wp2_with fail
      refine HE1.out.mono ?_
      rintro e w7 ⟨rfl, hb7⟩
      have HK8 := hid_k (HKB.out w6 w7 p s' F' _ _ HK7.out hb7)
      have HE2 := hid_k (HER.out w7 r ec HK8.out.lg.old)
      clear hb7 HE1 hd hlg hca e1 e2
      cases h6 : (r == 6) with
      | true =>
        obtain ⟨y, hy⟩ : ∃ y, (r == ec) = y := ⟨_, rfl⟩
        rw [hy] at HE2
        clear hy
        go_wp2_with fail
        refine HE2.out.mono ?_
        rintro e w8 ⟨rfl, hb8⟩
        have HK9 := hid_k (HKB.out w7 w8 p s' F' _ _ HK8.out hb8)
        have HC9 := hid_k (HAL.out w8 p s' F' HK9.out.lg)
        clear hb8 HE2
        go_wp2_with fail
        refine HC9.out.mono ?_
        rintro e w9 ⟨av, rfl, ha9, hb9⟩
        have HKA := hid_k (HKB.out w8 w9 p s' F' _ _ HK9.out hb9)
        have hdo := isOps_own HKA.out.done.1 rfl
        have HSM := hid_k (same_ops2 s'.hist s'.hist av _ w9 ha9 hdo (by rw [HEH.out, HHN.out]; omega) (by rw [HEH.out, HHN.out]; omega))
        rw [decide_eq_true rfl, HHN.out] at HSM
        obtain ⟨aad, acap, rfl⟩ := opsShapeK ha9
        clear hb9 ha9 hdo HC9
        go_wp2_with fail
        refine HSM.out.mono ?_
        rintro e w10 ⟨rfl, hb10⟩
        have HKF := hid_k (HKB.out w9 w10 p s' F' _ _ HKA.out hb10)
        rw [HHN.out] at HKF
        clear hb10 HSM
        go_wp2_with fail
        exact HKK.out _ _ _ _ _ _ _ _ _ _ _ _ _ _ _ _ _ _ _ _ _ _ _ _ _ _ _ _ _ _ _ _ _ _ _ _ _ _ _ _ _ _ _ _ _ _ _ _ _ _ _ _ _ _ _ _ _ _ _ _ _ _ _ _ _ _ _ _ _ _ _ _ _ _ _ _ _ _ _ _ _ _ _ _ (by go_num) ⟨s', F', HKF.out⟩
      | false =>
        have hre : (r == ec) = true := by
          rcases hr6 with h | h
          · rw [h] at h6; cases h6
          · rw [h]; simp
        rw [hre] at HE2
        clear hre
        go_wp2_with fail
        refine HE2.out.mono ?_
        rintro e w8 ⟨rfl, hb8⟩
        have HK9 := hid_k (HKB.out w7 w8 p s' F' _ _ HK8.out hb8)
        have HC9 := hid_k (HAL.out w8 p s' F' HK9.out.lg)
        clear hb8 HE2
        go_wp2_with fail
        refine HC9.out.mono ?_
        rintro e w9 ⟨av, rfl, ha9, hb9⟩
        have HKA := hid_k (HKB.out w8 w9 p s' F' _ _ HK9.out hb9)
        have hdo := isOps_own HKA.out.done.1 rfl
        have HSM := hid_k (same_ops2 s'.hist s'.hist av _ w9 ha9 hdo (by rw [HEH.out, HHN.out]; omega) (by rw [HEH.out, HHN.out]; omega))
        rw [decide_eq_true rfl, HHN.out] at HSM
        obtain ⟨aad, acap, rfl⟩ := opsShapeK ha9
        clear hb9 ha9 hdo HC9
        go_wp2_with fail
        refine HSM.out.mono ?_
        rintro e w10 ⟨rfl, hb10⟩
        have HKF := hid_k (HKB.out w9 w10 p s' F' _ _ HKA.out hb10)
        rw [HHN.out] at HKF
        clear hb10 HSM
        go_wp2_with fail
        exact HKK.out _ _ _ _ _ _ _ _ _ _ _ _ _ _ _ _ _ _ _ _ _ _ _ _ _ _ _ _ _ _ _ _ _ _ _ _ _ _ _ _ _ _ _ _ _ _ _ _ _ _ _ _ _ _ _ _ _ _ _ _ _ _ _ _ _ _ _ _ _ _ _ _ _ _ _ _ _ _ _ _ _ _ _ _ (by go_num) ⟨s', F', HKF.out⟩
    · rw [HE0.out]
      have hec0 : ec = 0 := by rw [← HEC.out]; exact hc0
      subst hec0
      have HN7 := hid_k (hca _ _ _ _ _ HN6.out)
      have HM7 := hid_k (hca _ _ _ _ _ HK6.out.marks)
      have HL7 := hid_k hlg
      have HEN6 : Hid (Calls Tryd.prog 11 #[.nilIface, .int .i64 6] w6 fun e w' => e = .returned (.bool false) ∧ w' = w6) := error_nil 6 w6
      have HEN0 : Hid (Calls Tryd.prog 11 #[.nilIface, .int .i64 0] w6 fun e w' => e = .returned (.bool true) ∧ w' = w6) := error_nil 0 w6
      have HB7 := hid_k (HBY.out w6 p _ F' hlg)
      obtain ⟨K, hK⟩ : ∃ K, s.bytes + n = K := ⟨_, rfl⟩
      have hKb : by0 + 2 ≤ K ∧ K ≤ 43000 := by have := HBY0.out; omega
      have HKE := hid_k hK
      have HB7' : Hid (Calls Tryd.prog 7 #[.pointer (some ⟨p, 0, none⟩)] w6 fun e w' => e = .returned (.int .i64 (K : Int)) ∧ Below w6.heap.size w6 w') := by rw [← hK]; exact HB7.out
      have hlt : ¬ (K : Int) < (by0 : Int) + 2 := by omega
      clear hd hlg hca hc0 HB7 hK HK6 HN6
      go_wp2_with fail
      refine HEN6.out.mono ?_
      rintro e w7 ⟨rfl, hw⟩
      rw [hw]
      clear hw
      go_wp2_with fail
      refine HEN0.out.mono ?_
      rintro e w7 ⟨rfl, hw⟩
      rw [hw]
      clear hw
      go_wp2_with fail
      refine HB7'.out.mono ?_
      rintro e w7 ⟨rfl, hb7⟩
      have HL8 := hid_k (HLB.out w6 w7 p _ F' HL7.out hb7)
      have HN8 := hid_k (carry_below hb7 _ _ _ _ _ HN7.out)
      have HM8 := hid_k (carry_below hb7 _ _ _ _ _ HM7.out)
      have HB8 : Hid (Calls Tryd.prog 7 #[.pointer (some ⟨p, 0, none⟩)] w7 fun e w' => e = .returned (.int .i64 (K : Int)) ∧ Below w7.heap.size w7 w') := by
        have := HBY.out w7 p _ F' HL8.out
        rw [← HKE.out]
        exact this
      clear hb7 HL7 HN7 HM7 HB7' HEN6 HEN0
      go_wp2_with fail
      refine HB8.out.mono ?_
      rintro e w8 ⟨rfl, hb8⟩
      have HL9 := hid_k (HLB.out w7 w8 p _ F' HL8.out hb8)
      have HN9 := hid_k (carry_below hb8 _ _ _ _ _ HN8.out)
      have HM9 := hid_k (carry_below hb8 _ _ _ _ _ HM8.out)
      have hba : Below w8.heap.size w8 (w8.alloc (.cells #[.int .i64 (K : Int)] 3)) := (Below.refl _ w8).alloc (Nat.le_refl _) _
      have HLa := hid_k (HLB.out w8 _ p _ F' HL9.out hba)
      have HNa := hid_k (carry_below hba _ _ _ _ _ HN9.out)
      have HMa := hid_k (carry_below hba _ _ _ _ _ HM9.out)
      have HSC : Hid (SrcAt (w8.alloc (.cells #[.int .i64 (K : Int)] 3)) (.slice (some ⟨w8.heap.size, 0, none⟩) 1 1) 1 1 [natC K]) := .inr ⟨⟨w8.heap.size, 0, none⟩, 1, rfl, rfl, fun j u hj => by
        match j, hj with
        | 0, hj => simp [natC] at hj; subst hj; simp [Addr.add]
        | q + 1, hj => simp at hj⟩
      have hsw : w.heap.size ≤ (w8.alloc (.cells #[.int .i64 (K : Int)] 3)).heap.size := HLa.out.old.size
      rw [HHN.out] at HMa
      clear hb8 hba HL8 HN8 HM8 HB8 HL9 HN9 HM9
      go_upto_region 40 with (at_builtin; refine wpList_append_src (w8.alloc (.cells #[.int .i64 (K : Int)] 3)) rfl (.tmp 179) (.tmp 182) 25 rfl w.heap.size 3 i1 (.int .i64 0) 1 8 Tryd.underlying25 HII.out.1 HII.out.2.1 HII.out.2.2.1 HII.out.2.2.2 rfl (by decide) mv (hn + 1) ((marksL s).map natC) rfl HMa.out.1 (.slice (some ⟨w8.heap.size, 0, none⟩) 1 1) 1 [natC K] rfl HSC.out (fun u hu => by rw [List.mem_singleton.1 hu]; rfl) (by unfold maxLen; omega) (by omega) hsw ?_; intro mv' w9 hown9 hgr9 hap9)
      have hkm : KpF Rep w w9 p ⟨s.hist ++ [(t, a, x)], s.ends ++ [s.bytes + n], s.bytes + n, s.safe, lessO s.left, false⟩ F' (.slice nad (hn + 1) ncap) mv' := by
        have h1 := HNa.out
        have h2 := HMa.out
        have h3 := hown9
        rw [← HKE.out] at h3
        rw [← HHN.out] at h1 h2 h3 ⊢
        exact KpF.more HRG.out HLa.out h1 h2 h3 hgr9 hap9
      have HKM := hid_k hkm
      have HCA := hid_k (HAL.out w9 p _ F' hkm.lg)
      obtain ⟨mad, mcap, rfl, hmc⟩ := own_shape hown9
      clear hkm hown9 hgr9 hap9 hmc HLa HNa HMa HSC hsw
      go_wp2_with fail
      refine HCA.out.mono ?_
      rintro e w10 ⟨av, rfl, ha10, hb10⟩
      have HKA := hid_k (HKB.out w9 w10 p _ F' _ _ HKM.out hb10)
      have hl1 : (s.hist ++ [(t, a, x)]).length = hn + 1 := by rw [List.length_append, HHN.out]; rfl
      have hdo : IsOps w10 (.slice nad (hn + 1) ncap) (s.hist ++ [(t, a, x)]) := isOps_own HKA.out.done.1 rfl
      have HSM := hid_k (same_ops2 (s.hist ++ [(t, a, x)]) (s.hist ++ [(t, a, x)]) av _ w10 ha10 hdo (by rw [hl1]; omega) (by rw [hl1]; omega))
      rw [decide_eq_true rfl] at HSM
      obtain ⟨aad, acap, rfl⟩ := opsShapeK ha10
      rw [hl1] at HSM ⊢
      clear hb10 ha10 hdo HCA hl1
      go_wp2_with fail
      refine HSM.out.mono ?_
      rintro e w11 ⟨rfl, hb11⟩
      have HKF := hid_k (HKB.out w10 w11 p _ F' _ _ HKA.out hb11)
      clear hb11 HSM
      go_wp2_with fail
      exact HKK.out _ _ _ _ _ _ _ _ _ _ _ _ _ _ _ _ _ _ _ _ _ _ _ _ _ _ _ _ _ _ _ _ _ _ _ _ _ _ _ _ _ _ _ _ _ _ _ _ _ _ _ _ _ _ _ _ _ _ _ _ _ _ _ _ _ _ _ _ _ _ _ _ _ _ _ _ _ _ _ _ _ _ _ _ (by go_num) ⟨_, F', HKF.out⟩
end Go.Proofs.YtggieffpehbfaaaDoor
