/-
  PROVED HERE: a run in memory in a round (KindMem3's Rnd), when something more was looked at.
  Conditions: none.
  PROVED HERE: laneref2.Run's two loops at a Commit, of kind 4: those that are done are not gone over; did one of a greater number look past what the deal wrote?
  Conditions: the lists are short.
-/
import Derived.Test.YtccjognnehoodagGreatDoorMgbs
import Derived.Test.YtccjognnehoodagGreatDoorMgbt
import Derived.Deep.CutBlock
import Derived.Deep.Cut
namespace Go.Proofs.YtccjognnehoodagGreatDoor
open Go.RowKit

theorem Rnd.look {w0 V w2 : World} {s : Kst} {at_ : Int} {d : Nat} {c : KLay} {Q D : Nat} {x y : Op3} {r : Dl} {sv wv dv v2 : Value} (h : Rnd w0 V s at_ d c Q D x r sv wv dv) (ht : Turns (fun j => c.lv.ownBlock = some j) V w2) (hv : w2.ownsRow 0 62 3 v2 (s.looks.length + 1) (flat s.looks ++ flat [y])) (hap : ∀ j, v2.ownBlock = some j → c.lv.ownBlock = some j ∨ V.heap.size ≤ j) :
    Rnd w0 w2 { s with looks := s.looks ++ [y] } at_ d { c with lv := v2 } Q D x r sv wv dv := by
  obtain ⟨b1, b2, b3⟩ := h.own.run.look (x := y) ht hv hap
  have hk : KOwn w0 w2 (stayStep { s with looks := s.looks ++ [y] } at_ (d : Int)) { c with lv := v2 } := h.own.to b1 b2 b3
  have hQ : ¬ c.lv.ownBlock = some Q := fun e => h.nQ ⟨3, by omega, e⟩
  have hD : ¬ c.lv.ownBlock = some D := fun e => h.nD ⟨3, by omega, e⟩
  have hQl := h.box.lt
  have hDl := h.dl.lt
  exact ⟨hk, h.hd, h.nd, h.now, h.hsv, h.hwv, h.hdv, h.box.turn ht hQ, h.dl.turn ht hD, fun hf => (b3 Q hf).elim h.nQ fun e => by omega, fun hf => (b3 D hf).elim h.nD fun e => by omega, h.new, h.DQ⟩
theorem Rnd.looksR {w0 V : World} {s : Kst} {at_ : Int} {d : Nat} {c : KLay} {Q D : Nat} {x : Op3} {r : Dl} {sv wv dv : Value} (h : Rnd w0 V s at_ d c Q D x r sv wv dv) : V.ownsRow 0 62 3 c.lv s.looks.length (flat s.looks) := h.own.run.looks
end Go.Proofs.YtccjognnehoodagGreatDoor

namespace Go.Proofs.YtccjognnehoodagGreatDoor
open Go.RowKit

set_option maxHeartbeats 32000000 in
set_option maxRecDepth 1000000 in
theorem hit_no {K : Act → World → Prop} {Q' : Exit → Act → World → Prop} {c0 c2 c3 c4 c6 c7 c8 c9 c10 c11 c12 c13 c14 c16 c17 c18 c19 c20 c21 c22 c23 c24 c25 c26 c27 c28 c29 c30 c31 c32 c33 c34 c35 c36 c37 c38 c39 c40 c41 c42 c43 c44 c45 c46 c47 c48 c49 c50 c51 c52 c53 c54 c55 c56 c57 c58 c59 c60 c61 c62 c63 c64 c65 c66 c67 c68 c69 c70 c71 c72 c73 c74 c75 c76 c77 c78 c79 c80 c81 c82 c83 c84 c85 c86 c87 c88 c89 c90 c91 c92 c93 c94 c95 c96 c97 c98 c99 c100 c101 c102 c103 c104 c105 c106 c107 c108 c109 c110 c111 c112 c113 c114 c115 c116 c117 c118 c119 c120 c121 c122 c123 c124 c125 c126 c127 c128 c129 c130 c131 c132 c133 c134 c135 c136 c137 c138 c139 c140 c141 c142 c143 c144 c145 c146 c147 c148 c149 c150 c151 c152 c153 c154 c155 c156 c157 c158 c159 c160 c161 c162 c163 c164 c165 c166 c167 c168 c169 c170 c171 c172 c173 c174 c175 c176 c177 c178 c179 c180 c181 c182 c183 c184 c185 c186 c187 c188 c189 c190 c191 c192 c193 c194 c195 c196 c197 c198 c199 c200 c201 c202 c203 c204 c205 c206 c207 c208 c209 c210 c211 c212 c213 c214 c215 c216 c217 c218 c219 c220 c221 c222 c223 c224 c225 c226 c227 c228 c229 c230 c231 c232 c233 : Value} {add : Option Addr} {ndn cpd : Nat} (V : World) (hK : ∀ (u16 u17 u18 u118 u119 u120 u121 u122 u123 u124 u125 u126 u127 u128 u129 u130 u131 u132 u133 u134 u135 u136 u137 u138 u139 u140 u141 u142 u143 u144 u145 u146 u147 u148 u149 u150 u151 u152 u153 u154 u155 u156 u157 u158 u159 u160 u161 u162 u163 u164 u165 : Value), K ⟨#[c0, .int .i64 4, c2, c3, c4, .slice add ndn cpd, c6, c7, c8, c9, c10, c11, c12, c13, c14, .int .i64 0, u16, u17, u18, c19, c20, c21, c22, c23, c24, c25, c26, c27, c28, c29, c30, c31, c32, c33, c34, c35, c36, c37, c38, c39, c40, c41, c42, c43, c44, c45, c46, c47, c48, c49, c50, c51, c52, c53, c54, c55, c56, c57, c58, c59, c60, c61, c62, c63, c64, c65, c66, c67, c68, c69, c70, c71, c72, c73, c74, c75, c76, c77, c78, c79, c80, c81, c82, c83, c84, c85, c86, c87, c88, c89, c90, c91, c92, c93, c94, c95, c96, c97, c98, c99, c100, c101, c102, c103, c104, c105, c106, c107, c108, c109, c110, c111, c112, c113, c114, c115, c116, c117, u118, u119, u120, u121, u122, u123, u124, u125, u126, u127, u128, u129, u130, u131, u132, u133, u134, u135, u136, u137, u138, u139, u140, u141, u142, u143, u144, u145, u146, u147, u148, u149, u150, u151, u152, u153, u154, u155, u156, u157, u158, u159, u160, u161, u162, u163, u164, u165, c166, c167, c168, c169, c170, c171, c172, c173, c174, c175, c176, c177, c178, c179, c180, c181, c182, c183, c184, c185, c186, c187, c188, c189, c190, c191, c192, c193, c194, c195, c196, c197, c198, c199, c200, c201, c202, c203, c204, c205, c206, c207, c208, c209, c210, c211, c212, c213, c214, c215, c216, c217, c218, c219, c220, c221, c222, c223, c224, c225, c226, c227, c228, c229, c230, c231, c232, c233], []⟩ V) :
    Code.wp Tryz.prog ((Tryz.f7.body.bind (blkOf 4)).getD .skip) (Exit.then K Q') ⟨#[c0, .int .i64 4, c2, c3, c4, .slice add ndn cpd, c6, c7, c8, c9, c10, c11, c12, c13, c14, .int .i64 0, c16, c17, c18, c19, c20, c21, c22, c23, c24, c25, c26, c27, c28, c29, c30, c31, c32, c33, c34, c35, c36, c37, c38, c39, c40, c41, c42, c43, c44, c45, c46, c47, c48, c49, c50, c51, c52, c53, c54, c55, c56, c57, c58, c59, c60, c61, c62, c63, c64, c65, c66, c67, c68, c69, c70, c71, c72, c73, c74, c75, c76, c77, c78, c79, c80, c81, c82, c83, c84, c85, c86, c87, c88, c89, c90, c91, c92, c93, c94, c95, c96, c97, c98, c99, c100, c101, c102, c103, c104, c105, c106, c107, c108, c109, c110, c111, c112, c113, c114, c115, c116, c117, c118, c119, c120, c121, c122, c123, c124, c125, c126, c127, c128, c129, c130, c131, c132, c133, c134, c135, c136, c137, c138, c139, c140, c141, c142, c143, c144, c145, c146, c147, c148, c149, c150, c151, c152, c153, c154, c155, c156, c157, c158, c159, c160, c161, c162, c163, c164, c165, c166, c167, c168, c169, c170, c171, c172, c173, c174, c175, c176, c177, c178, c179, c180, c181, c182, c183, c184, c185, c186, c187, c188, c189, c190, c191, c192, c193, c194, c195, c196, c197, c198, c199, c200, c201, c202, c203, c204, c205, c206, c207, c208, c209, c210, c211, c212, c213, c214, c215, c216, c217, c218, c219, c220, c221, c222, c223, c224, c225, c226, c227, c228, c229, c230, c231, c232, c233], []⟩ V := by
  conv => arg 2; whnf
  have HK := hid_r hK
  clear hK
  go_wp2_with fail
  go_loopw [14, 15] (fun v14 v15 wr => v14 = c14 ∧ v15 = .int .i64 0 ∧ wr = V) (fun _ _ _ => 0)
  case atStart => exact ⟨rfl, rfl, rfl⟩
  case round =>
    obtain ⟨h14, rfl, hwr⟩ := hrel
    subst hwr
    subst h14
    by_cases hlk : 0 < ndn
    · have hlk' : (0 : Int) < (ndn : Int) := by omega
      go_wp2_with fail
      exact HK.out _ _ _ _ _ _ _ _ _ _ _ _ _ _ _ _ _ _ _ _ _ _ _ _ _ _ _ _ _ _ _ _ _ _ _ _ _ _ _ _ _ _ _ _ _ _ _ _ _ _ _
    · have hlk' : ¬ (0 : Int) < (ndn : Int) := by omega
      go_wp2_with fail
      exact HK.out _ _ _ _ _ _ _ _ _ _ _ _ _ _ _ _ _ _ _ _ _ _ _ _ _ _ _ _ _ _ _ _ _ _ _ _ _ _ _ _ _ _ _ _ _ _ _ _ _ _ _
set_option maxHeartbeats 32000000 in
set_option maxRecDepth 1000000 in
theorem looks_yes {K : Act → World → Prop} {Q' : Exit → Act → World → Prop} {c0 c2 c3 c4 c5 c6 c7 c9 c12 c13 c15 c16 c17 c18 c20 c21 c22 c23 c24 c25 c26 c27 c28 c29 c30 c31 c32 c33 c34 c35 c36 c37 c38 c39 c40 c41 c42 c43 c44 c45 c46 c47 c48 c49 c50 c51 c52 c53 c54 c55 c56 c57 c58 c59 c60 c61 c62 c63 c64 c65 c66 c67 c68 c69 c70 c71 c72 c73 c74 c75 c76 c77 c78 c79 c80 c81 c82 c83 c84 c85 c86 c87 c88 c89 c90 c91 c92 c93 c94 c95 c96 c97 c98 c99 c100 c101 c102 c103 c104 c105 c106 c107 c108 c109 c110 c111 c112 c113 c114 c115 c116 c117 c118 c119 c120 c121 c122 c123 c124 c125 c126 c127 c128 c129 c130 c131 c132 c133 c134 c135 c136 c137 c138 c139 c140 c141 c142 c143 c144 c145 c146 c147 c148 c149 c150 c151 c152 c153 c154 c155 c156 c157 c158 c159 c160 c161 c162 c163 c164 c165 c166 c167 c168 c169 c170 c171 c172 c173 c174 c175 c176 c177 c178 c179 c180 c181 c182 c183 c184 c185 c186 c187 c188 c189 c190 c191 c192 c193 c194 c195 c196 c197 c198 c199 c200 c201 c202 c203 c204 c205 c206 c207 c208 c209 c210 c211 c212 c213 c214 c215 c216 c217 c218 c219 c220 c221 c222 c223 c224 c225 c226 c227 c228 c229 c230 c231 c232 c233 : Value} {w : World} {s : Kst} {at_ : Int} {dt : Nat} {c1 : KLay} {Q D : Nat} {i : Int} {r : Dl} {ads adw add : Option Addr} {ns cps nw cpw cpd : Nat} {adl : Option Addr} {cpl : Nat} (V : World) (hR : Rnd w V s at_ dt c1 Q D ((dt : Int), 3, i) r (.slice ads ns cps) (.slice adw nw cpw) (.slice add s.done.length cpd)) (hlv : c1.lv = .slice adl s.looks.length cpl) (hlen : r.seen.length = ns ∧ r.wrote.length = nw ∧ ns ≤ 40 ∧ nw ≤ 40) (hlk : s.looks.length ≤ 40)
    (hK : ∀ (u19 u20 u166 u167 u168 u169 u170 u171 u172 u173 u174 u175 u176 u177 u178 u179 u180 u181 u182 u183 u184 u185 u186 u187 u188 u189 u190 u191 u192 u193 u194 u195 u196 u197 u198 u199 u200 u201 u202 u203 u204 : Value) (V' : World), Rnd w V' s at_ dt c1 Q D ((dt : Int), 3, i) r (.slice ads ns cps) (.slice adw nw cpw) (.slice add s.done.length cpd) → K ⟨#[c0, .int .i64 4, c2, c3, c4, c5, c6, c7, .slice adl s.looks.length cpl, c9, .pointer (some ⟨Q, 0, none⟩), .pointer (some ⟨D, 0, none⟩), c12, c13, .bool (!pastK s (dt : Int) r), c15, c16, c17, c18, u19, u20, c21, c22, c23, c24, c25, c26, c27, c28, c29, c30, c31, c32, c33, c34, c35, c36, c37, c38, c39, c40, c41, c42, c43, c44, c45, c46, c47, c48, c49, c50, c51, c52, c53, c54, c55, c56, c57, c58, c59, c60, c61, c62, c63, c64, c65, c66, c67, c68, c69, c70, c71, c72, c73, c74, c75, c76, c77, c78, c79, c80, c81, c82, c83, c84, c85, c86, c87, c88, c89, c90, c91, c92, c93, c94, c95, c96, c97, c98, c99, c100, c101, c102, c103, c104, c105, c106, c107, c108, c109, c110, c111, c112, c113, c114, c115, c116, c117, c118, c119, c120, c121, c122, c123, c124, c125, c126, c127, c128, c129, c130, c131, c132, c133, c134, c135, c136, c137, c138, c139, c140, c141, c142, c143, c144, c145, c146, c147, c148, c149, c150, c151, c152, c153, c154, c155, c156, c157, c158, c159, c160, c161, c162, c163, c164, c165, u166, u167, u168, u169, u170, u171, u172, u173, u174, u175, u176, u177, u178, u179, u180, u181, u182, u183, u184, u185, u186, u187, u188, u189, u190, u191, u192, u193, u194, u195, u196, u197, u198, u199, u200, u201, u202, u203, u204, c205, c206, c207, c208, c209, c210, c211, c212, c213, c214, c215, c216, c217, c218, c219, c220, c221, c222, c223, c224, c225, c226, c227, c228, c229, c230, c231, c232, c233], []⟩ V') :
    Code.wp Tryz.prog ((Tryz.f7.body.bind (blkOf 8)).getD .skip) (Exit.then K Q') ⟨#[c0, .int .i64 4, c2, c3, c4, c5, c6, c7, .slice adl s.looks.length cpl, c9, .pointer (some ⟨Q, 0, none⟩), .pointer (some ⟨D, 0, none⟩), c12, c13, .bool true, c15, c16, c17, c18, .int .i64 0, c20, c21, c22, c23, c24, c25, c26, c27, c28, c29, c30, c31, c32, c33, c34, c35, c36, c37, c38, c39, c40, c41, c42, c43, c44, c45, c46, c47, c48, c49, c50, c51, c52, c53, c54, c55, c56, c57, c58, c59, c60, c61, c62, c63, c64, c65, c66, c67, c68, c69, c70, c71, c72, c73, c74, c75, c76, c77, c78, c79, c80, c81, c82, c83, c84, c85, c86, c87, c88, c89, c90, c91, c92, c93, c94, c95, c96, c97, c98, c99, c100, c101, c102, c103, c104, c105, c106, c107, c108, c109, c110, c111, c112, c113, c114, c115, c116, c117, c118, c119, c120, c121, c122, c123, c124, c125, c126, c127, c128, c129, c130, c131, c132, c133, c134, c135, c136, c137, c138, c139, c140, c141, c142, c143, c144, c145, c146, c147, c148, c149, c150, c151, c152, c153, c154, c155, c156, c157, c158, c159, c160, c161, c162, c163, c164, c165, c166, c167, c168, c169, c170, c171, c172, c173, c174, c175, c176, c177, c178, c179, c180, c181, c182, c183, c184, c185, c186, c187, c188, c189, c190, c191, c192, c193, c194, c195, c196, c197, c198, c199, c200, c201, c202, c203, c204, c205, c206, c207, c208, c209, c210, c211, c212, c213, c214, c215, c216, c217, c218, c219, c220, c221, c222, c223, c224, c225, c226, c227, c228, c229, c230, c231, c232, c233], []⟩ V := by
  conv => arg 2; whnf
  have HK := hid_r hK
  have HRN := hid_r hR
  have HLV := hid_r hlv
  have HLEN := hid_r hlen
  obtain ⟨FP, hFP⟩ : ∃ f : Op3 → Bool, f = fun x => inB r.wrote x.2.1 && (decide ((dt : Int) < x.1) && decide (x.2.2 < (dt : Int))) := ⟨_, rfl⟩
  have HPA : Hid (pastK s (dt : Int) r = s.looks.any FP) := by show _ = _; rw [hFP]; rfl
  have HFP := hid_r hFP
  clear hK hR hlv hlen hFP
  go_wp2_with fail
  go_loopw [14, 19] (fun v14 v19 wr => ∃ n : Nat, n ≤ s.looks.length ∧ v19 = .int .i64 n ∧ v14 = .bool (!(s.looks.take n).any FP) ∧ Rnd w wr s at_ dt c1 Q D ((dt : Int), 3, i) r (.slice ads ns cps) (.slice adw nw cpw) (.slice add s.done.length cpd)) (fun _ v19 _ => s.looks.length - (intOf v19).toNat)
  case atStart => exact ⟨0, Nat.zero_le _, rfl, rfl, HRN.out⟩
  case round =>
    obtain ⟨n, hn, rfl, rfl, hrn⟩ := hrel
    have HRW := hid_r hrn
    obtain ⟨q0, q1, q2, q3, q4⟩ := hrn.dl.cells
    obtain ⟨p0, p1, p2⟩ := hrn.box
    simp only at p0 p1 p2
    clear hrn HRN
    by_cases hlt : n < s.looks.length
    · have hlt' : (n : Int) < (s.looks.length : Int) := by omega
      have hn0 : (0 : Int) ≤ (n : Int) := by omega
      have hnn : ¬ (n : Int) < 0 := by omega
      have hil : IsOps wr (.slice adl s.looks.length cpl) s.looks := by rw [← HLV.out]; exact isOps_row HRW.out.looksR rfl
      obtain ⟨adx, bl, ofl, cpx, hvx, hax, -, -, hcx⟩ := hil
      simp only [Value.slice.injEq, true_and] at hvx
      obtain ⟨rfl, rfl⟩ := hvx
      obtain rfl := hax (by omega)
      obtain ⟨k0, k1, k2⟩ := hcx n hlt
      obtain ⟨⟨lt, li, lf⟩, hlo⟩ : ∃ o : Op3, s.looks.getD n (0, 0, 0) = o := ⟨_, rfl⟩
      rw [hlo] at k0 k1 k2
      simp only at k0 k1 k2
      obtain ⟨b1, hb1⟩ : ∃ b, (s.looks.take n).any FP = b := ⟨_, rfl⟩
      obtain ⟨b2, hb2⟩ : ∃ b, inB r.wrote li = b := ⟨_, rfl⟩
      obtain ⟨b3, hb3⟩ : ∃ b, decide ((dt : Int) < lt) = b := ⟨_, rfl⟩
      obtain ⟨b4, hb4⟩ : ∃ b, decide (lf < (dt : Int)) = b := ⟨_, rfl⟩
      have HTN : Hid ((s.looks.take (n + 1)).any FP = (b1 || (b2 && (b3 && b4)))) := by
        show _ = _
        rw [List.take_succ_eq_append_getElem hlt, List.any_append, hb1]
        have h9 : s.looks[n] = (lt, li, lf) := by rw [← hlo]; simp [List.getD, hlt]
        rw [h9, HFP.out]
        simp [hb2, hb3, hb4]
      have HIN : Hid (∀ m, Calls Tryz.prog 21 #[.slice adw nw cpw, .int .i64 li] (wr.drewN m) fun e w' => e = .returned (.bool b2) ∧ w' = wr.drewN m) := fun m => by
        have h9 := in_any r.wrote (.slice adw nw cpw) li (wr.drewN m) ((isInts_own HRW.out.wroteR rfl).below (below_drewN (Below.refl wr.heap.size wr) _) (Nat.le_refl _)) (by rw [HLEN.out.2.1]; have := HLEN.out.2.2.2; omega)
        rw [hb2] at h9
        exact h9
      rw [hb1]
      clear hax hcx hlo hb1 hb2
      go_upto_region 45 with (fail)
      go_quiet (first | (go_at_call 21; refine Calls.quiet_of_same (HIN.out _)))
      have HR4 := hid_r (HRW.out.below (below_drewN (Below.refl wr.heap.size wr) nq))
      obtain ⟨W4, hQ4⟩ : ∃ Z : World, Z = wr.drewN nq := ⟨_, rfl⟩
      replace k0 : W4.cell? ⟨bl, ofl + n * 3, none⟩ = some (.int .i64 lt) := by rw [hQ4]; exact k0
      replace k2 : W4.cell? ⟨bl, ofl + n * 3 + 2, none⟩ = some (.int .i64 lf) := by rw [hQ4]; exact k2
      replace p0 : W4.cell? ⟨Q, 0, none⟩ = some (.int .i64 (dt : Int)) := by rw [hQ4]; exact p0
      rw [← hQ4] at HR4 ⊢
      clear hQ4 HIN HRW k1 p1 p2 q0 q1 q2 q3 q4
      cases b2 with
      | false =>
        go_wp2_with fail
        go_quiet (fail)
        go_wp2_with fail
        go_roundw
        case rel => exact ⟨n + 1, by omega, by go_num, by rw [HTN.out]; simp, HR4.out.below (below_drewN (Below.refl _ _) _)⟩
        case measure => simp [intOf]; omega
      | true =>
        cases b3 with
        | false =>
          have hng : decide ((dt : Int) < lt) = false := hb3
          go_wp2_with fail
          go_quiet (fail)
          go_wp2_with fail
          go_roundw
          case rel => exact ⟨n + 1, by omega, by go_num, by rw [HTN.out]; simp, HR4.out.below (below_drewN (Below.refl _ _) _)⟩
          case measure => simp [intOf]; omega
        | true =>
          have hng : decide ((dt : Int) < lt) = true := hb3
          cases b4 with
          | false =>
            have hnf : decide (lf < (dt : Int)) = false := hb4
            go_wp2_with fail
            go_quiet (fail)
            go_wp2_with fail
            go_roundw
            case rel => exact ⟨n + 1, by omega, by go_num, by rw [HTN.out]; simp, HR4.out.below (below_drewN (Below.refl _ _) _)⟩
            case measure => simp [intOf]; omega
          | true =>
            have hnf : decide (lf < (dt : Int)) = true := hb4
            go_wp2_with fail
            go_quiet (fail)
            go_wp2_with fail
            go_roundw
            case rel => exact ⟨n + 1, by omega, by go_num, by rw [HTN.out]; simp, HR4.out.below (below_drewN (Below.refl _ _) _)⟩
            case measure => simp [intOf]; omega
    · have hlt' : ¬ (n : Int) < (s.looks.length : Int) := by omega
      obtain rfl : n = s.looks.length := by omega
      rw [List.take_length, ← HPA.out]
      go_wp2_with fail
      exact HK.out _ _ _ _ _ _ _ _ _ _ _ _ _ _ _ _ _ _ _ _ _ _ _ _ _ _ _ _ _ _ _ _ _ _ _ _ _ _ _ _ _ _ HRW.out
end Go.Proofs.YtccjognnehoodagGreatDoor
