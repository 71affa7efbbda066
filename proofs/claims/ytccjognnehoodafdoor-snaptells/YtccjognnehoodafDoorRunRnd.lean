/-
  PROVED HERE: laneref2.Run's round, of any kind whose switch is as asked: the run in memory goes on by one op.
  Conditions: the lists are short.
-/
import Derived.Test.YtccjognnehoodafDoorRunSwc
import Derived.Deep.CutRange
import Derived.Deep.CutBlock
namespace Go.Proofs.YtccjognnehoodafDoor
open Go.RowKit

set_option maxHeartbeats 32000000 in
set_option maxRecDepth 1000000 in
theorem round_blk {kind : Int} {okF : Kst → Int → Dl → Bool} (hsw : SwC kind okF) {K : Act → World → Prop} {Q' : Exit → Act → World → Prop} {c2 c3 c4 c10 c11 c12 c13 c14 c15 c16 c17 c18 c19 c20 c21 c22 c23 c24 c25 c26 c27 c28 c29 c30 c31 c32 c33 c34 c35 c36 c37 c38 c39 c40 c41 c42 c43 c44 c45 c46 c47 c48 c49 c50 c51 c52 c53 c54 c55 c56 c57 c58 c59 c60 c61 c62 c63 c64 c65 c66 c67 c68 c69 c70 c71 c72 c73 c74 c75 c76 c77 c78 c79 c80 c81 c82 c83 c84 c85 c86 c87 c88 c89 c90 c91 c92 c93 c94 c95 c96 c97 c98 c99 c100 c101 c102 c103 c104 c105 c106 c107 c108 c109 c110 c111 c112 c113 c114 c115 c116 c117 c118 c119 c120 c121 c122 c123 c124 c125 c126 c127 c128 c129 c130 c131 c132 c133 c134 c135 c136 c137 c138 c139 c140 c141 c142 c143 c144 c145 c146 c147 c148 c149 c150 c151 c152 c153 c154 c155 c156 c157 c158 c159 c160 c161 c162 c163 c164 c165 c166 c167 c168 c169 c170 c171 c172 c173 c174 c175 c176 c177 c178 c179 c180 c181 c182 c183 c184 c185 c186 c187 c188 c189 c190 c191 c192 c193 c194 c195 c196 c197 c198 c199 c200 c201 c202 c203 c204 c205 c206 c207 c208 c209 c210 c211 c212 c213 c214 c215 c216 c217 c218 c219 c220 c221 c222 c223 c224 c225 c226 c227 c228 c229 c230 c231 c232 c233 : Value} {w wr : World} {s : Kst} {k dt O B b off len cap : Nat} {a i : Int} {ck : KLay} {add adl : Option Addr} {cpd cpl : Nat}
    (hok : KOwn w wr s ck) (hO : ck.O = O) (hB : ck.B = B) (hdv : ck.dv = .slice add s.done.length cpd) (hlv : ck.lv = .slice adl s.looks.length cpl) (_hbR : b < wr.heap.size) (hkl : k < len)
    (e0 : wr.cell? ⟨b, off + k * 3, none⟩ = some (.int .i64 (dt : Int))) (e1 : wr.cell? ⟨b, off + k * 3 + 1, none⟩ = some (.int .i64 a)) (e2 : wr.cell? ⟨b, off + k * 3 + 2, none⟩ = some (.int .i64 i)) (hd1 : 1 ≤ dt) (hd6 : dt ≤ 6) (ha : a = 1 ∨ a = 2 ∨ a = 3 ∨ a = 4) (hfr : (dt : Int) ∉ s.done)
    (hkd : ∀ x ∈ s.done, 1 ≤ x ∧ x ≤ 6) (hKL : ∀ t, (s.of t).seen.length ≤ 40 ∧ (s.of t).wrote.length ≤ 40) (hdn6 : s.done.length ≤ 6) (hnd : s.done.Nodup) (hlk : s.looks.length ≤ 40)
    (hK : ∀ (u10 u11 u12 u13 u14 u15 u16 u17 u18 u19 u20 u21 u28 u29 u30 u31 u32 u33 u34 u35 u36 u37 u38 u39 u40 u41 u42 u43 u44 u45 u46 u47 u48 u49 u50 u51 u52 u53 u54 u55 u56 u57 u58 u59 u60 u61 u62 u63 u64 u65 u66 u67 u68 u69 u70 u71 u72 u73 u74 u75 u76 u77 u78 u79 u80 u81 u82 u83 u84 u85 u86 u87 u88 u89 u90 u91 u92 u93 u94 u95 u96 u97 u98 u99 u100 u101 u102 u103 u104 u105 u106 u107 u108 u109 u110 u111 u112 u113 u114 u115 u116 u117 u118 u119 u120 u121 u122 u123 u124 u125 u126 u127 u128 u129 u130 u131 u132 u133 u134 u135 u136 u137 u138 u139 u140 u141 u142 u143 u144 u145 u146 u147 u148 u149 u150 u151 u152 u153 u154 u155 u156 u157 u158 u159 u160 u161 u162 u163 u164 u165 u166 u167 u168 u169 u170 u171 u172 u173 u174 u175 u176 u177 u178 u179 u180 u181 u182 u183 u184 u185 u186 u187 u188 u189 u190 u191 u192 u193 u194 u195 u196 u197 u198 u199 u200 u201 u202 u203 u204 u205 u206 u207 u208 u209 u210 u211 u212 u213 u214 u215 u216 u217 u218 u219 u220 u221 u222 u223 u224 u225 u226 u227 u228 u229 u230 u231 u232 : Value) (X : World) (cz : KLay) (da la : Option Addr) (dn dc ln lc : Nat), KOwn w X (stepK kind okF s (k : Int) ((dt : Int), a, i)) cz → cz.O = O → cz.B = B → cz.dv = .slice da dn dc → cz.lv = .slice la ln lc → K ⟨#[.slice (some ⟨b, off, none⟩) len cap, .int .i64 kind, c2, c3, c4, .slice da dn dc, .pointer (some ⟨O, 0, none⟩), .pointer (some ⟨B, 0, none⟩), .slice la ln lc, .int .i64 (k : Int), u10, u11, u12, u13, u14, u15, u16, u17, u18, u19, u20, u21, c22, c23, c24, c25, c26, c27, u28, u29, u30, u31, u32, u33, u34, u35, u36, u37, u38, u39, u40, u41, u42, u43, u44, u45, u46, u47, u48, u49, u50, u51, u52, u53, u54, u55, u56, u57, u58, u59, u60, u61, u62, u63, u64, u65, u66, u67, u68, u69, u70, u71, u72, u73, u74, u75, u76, u77, u78, u79, u80, u81, u82, u83, u84, u85, u86, u87, u88, u89, u90, u91, u92, u93, u94, u95, u96, u97, u98, u99, u100, u101, u102, u103, u104, u105, u106, u107, u108, u109, u110, u111, u112, u113, u114, u115, u116, u117, u118, u119, u120, u121, u122, u123, u124, u125, u126, u127, u128, u129, u130, u131, u132, u133, u134, u135, u136, u137, u138, u139, u140, u141, u142, u143, u144, u145, u146, u147, u148, u149, u150, u151, u152, u153, u154, u155, u156, u157, u158, u159, u160, u161, u162, u163, u164, u165, u166, u167, u168, u169, u170, u171, u172, u173, u174, u175, u176, u177, u178, u179, u180, u181, u182, u183, u184, u185, u186, u187, u188, u189, u190, u191, u192, u193, u194, u195, u196, u197, u198, u199, u200, u201, u202, u203, u204, u205, u206, u207, u208, u209, u210, u211, u212, u213, u214, u215, u216, u217, u218, u219, u220, u221, u222, u223, u224, u225, u226, u227, u228, u229, u230, u231, u232, c233], []⟩ X) :
    Code.wp Tryd.prog ((Tryd.f8.body.bind (blkOf 1)).getD .skip) (Exit.then K Q') ⟨#[.slice (some ⟨b, off, none⟩) len cap, .int .i64 kind, c2, c3, c4, .slice add s.done.length cpd, .pointer (some ⟨O, 0, none⟩), .pointer (some ⟨B, 0, none⟩), .slice adl s.looks.length cpl, .int .i64 (k : Int), c10, c11, c12, c13, c14, c15, c16, c17, c18, c19, c20, c21, c22, c23, c24, c25, c26, c27, c28, c29, c30, c31, c32, c33, c34, c35, c36, c37, c38, c39, c40, c41, c42, c43, c44, c45, c46, c47, c48, c49, c50, c51, c52, c53, c54, c55, c56, c57, c58, c59, c60, c61, c62, c63, c64, c65, c66, c67, c68, c69, c70, c71, c72, c73, c74, c75, c76, c77, c78, c79, c80, c81, c82, c83, c84, c85, c86, c87, c88, c89, c90, c91, c92, c93, c94, c95, c96, c97, c98, c99, c100, c101, c102, c103, c104, c105, c106, c107, c108, c109, c110, c111, c112, c113, c114, c115, c116, c117, c118, c119, c120, c121, c122, c123, c124, c125, c126, c127, c128, c129, c130, c131, c132, c133, c134, c135, c136, c137, c138, c139, c140, c141, c142, c143, c144, c145, c146, c147, c148, c149, c150, c151, c152, c153, c154, c155, c156, c157, c158, c159, c160, c161, c162, c163, c164, c165, c166, c167, c168, c169, c170, c171, c172, c173, c174, c175, c176, c177, c178, c179, c180, c181, c182, c183, c184, c185, c186, c187, c188, c189, c190, c191, c192, c193, c194, c195, c196, c197, c198, c199, c200, c201, c202, c203, c204, c205, c206, c207, c208, c209, c210, c211, c212, c213, c214, c215, c216, c217, c218, c219, c220, c221, c222, c223, c224, c225, c226, c227, c228, c229, c230, c231, c232, c233], []⟩ wr := by
  conv => arg 2; whnf
  have HSW := hid_r hsw
  have HOK := hid_r hok
  have HK := hid_r hK
  have HKL := hid_r hKL
  have HKD := hid_r hkd
  have HFR := hid_r hfr
  have HND := hid_r hnd
  have HCO : Hid (ck.O = O ∧ ck.B = B) := ⟨hO, hB⟩
  have HDV := hid_r (And.intro hdv hlv)
  have hOl : O < wr.heap.size := by rw [← hO]; exact hok.run.part_lt 0 _ (by omega) rfl
  have hBl : B < wr.heap.size := by rw [← hB]; exact hok.run.part_lt 1 _ (by omega) rfl
  have hk0 : (0 : Int) ≤ (k : Int) := by omega
  have hkn : ¬ (k : Int) < 0 := by omega
  have hkl' : (k : Int) < (len : Int) := by omega
  have hd0 : (0 : Int) ≤ (dt : Int) := by omega
  have hdn : ¬ (dt : Int) < 0 := by omega
  have hd7 : (dt : Int) < 7 := by omega
  clear hsw hok hK hKL hkd hfr hnd hO hB hdv hlv
  go_upto_region 9 with (fail)
  obtain ⟨W, hW⟩ : ∃ W, W = wr.alloc (.cells #[.int .i64 (dt : Int), .int .i64 a, .int .i64 i] 59) := ⟨_, rfl⟩
  rw [← hW]
  have hbx : OpBx W wr.heap.size ((dt : Int), a, i) := by rw [hW]; exact opBx_new _ _ _ _ _
  have hbW : Below wr.heap.size wr W := by rw [hW]; exact (Below.refl _ wr).alloc (Nat.le_refl _) _
  obtain ⟨Q, hQ⟩ : ∃ Q, Q = wr.heap.size := ⟨_, rfl⟩
  have HQF : Hid (¬ kFeet ck Q) := fun hk => by have := HOK.out.run.feet_lt hk; omega
  have HOW := hid_r (HOK.out.below hbW)
  rw [← hQ] at hbx ⊢
  have HBX := hid_r hbx
  obtain ⟨p0, p1, p2⟩ := hbx
  simp only at p0 p1 p2
  have cb := HOW.out.run.cB (d := dt) (by omega)
  rw [HCO.out.2] at cb
  clear hW hbW hQ e0 e1 e2
  go_upto_if 36 with (fail)
  go_cut [32] from 28 to 232 (fun _ W1 => ∃ c1, KOwn w W1 (stayStep s (k : Int) (dt : Int)) c1 ∧ c1.O = O ∧ c1.B = B ∧ c1.dv = .slice add s.done.length cpd ∧ c1.lv = .slice adl s.looks.length cpl ∧ OpBx W1 Q ((dt : Int), a, i) ∧ ¬ kFeet c1 Q)
  case first =>
    cases hb : s.beg (dt : Int) with
    | true =>
      rw [hb] at cb
      go_wp2_with fail
      go_meet
      case rel => exact ⟨ck, by rw [stay_begun hb]; exact HOW.out, HCO.out.1, HCO.out.2, HDV.out.1, HDV.out.2, HBX.out, HQF.out⟩
    | false =>
      rw [hb] at cb
      obtain ⟨c1, b1, b2, b3, b4, b5, b6, b7⟩ := HOW.out.run.begin (d := dt) (at_ := (k : Int)) (by omega) hb (fun u hu e => HFR.out (e ▸ hu))
      have HK1 := hid_r (HOW.out.to b1 b2 b3)
      have HB1 := hid_r (HBX.out.turn b2 HQF.out)
      have HN1 : Hid (¬ kFeet c1 Q) := fun hk => (b3 Q hk).elim HQF.out fun h => by have := HBX.out.lt; omega
      have HC1 : Hid (c1.O = O ∧ c1.B = B ∧ c1.dv = .slice add s.done.length cpd ∧ c1.lv = .slice adl s.looks.length cpl) := ⟨b4.trans HCO.out.1, b5.trans HCO.out.2, b6.trans HDV.out.1, b7.trans HDV.out.2⟩
      have zb := HOW.out.run.thawB dt
      rw [HCO.out.2] at zb
      go_upto_region 11 with (fail)
      obtain ⟨X, hX⟩ : ∃ X, X = W.setCell ⟨B, dt, none⟩ (.bool true) := ⟨_, rfl⟩
      rw [← hX]
      have hXB : Turns (fun j => j = ck.B) W X := by
        rw [hX, HCO.out.2]
        refine Turns.setCell (Turns.refl _ W) ?_ _
        exact .inl rfl
      have hQB : ¬ Q = ck.B := fun e => HQF.out ⟨1, by omega, e⟩
      have hOB : ¬ ck.O = ck.B := fun e => HOW.out.run.apart 0 1 ck.O (by omega) (by omega) (by omega) rfl e
      obtain ⟨t0, t1, t2⟩ := HBX.out.turn hXB hQB
      simp only at t0 t1 t2
      have hXO : X.heap[ck.O]? = some (.cells (cells35 s ck) 56 (0, 0)) := (hXB.block ck.O (HOW.out.run.part_lt 0 _ (by omega) rfl) hOB).trans HOW.out.run.blkO
      obtain ⟨x0, y0⟩ : ∃ u, X.cell? ⟨ck.O, dt * 5, none⟩ = some u := ⟨_, by rw [cell_of_row X ck.O _ _ _ _ hXO, cells35_at s ck (by omega)]⟩
      obtain ⟨x1, y1⟩ : ∃ u, X.cell? ⟨ck.O, dt * 5 + 1, none⟩ = some u := ⟨_, by rw [cell_of_row X ck.O _ _ _ _ hXO, cells35_at s ck (by omega)]⟩
      obtain ⟨x2, y2⟩ : ∃ u, X.cell? ⟨ck.O, dt * 5 + 2, none⟩ = some u := ⟨_, by rw [cell_of_row X ck.O _ _ _ _ hXO, cells35_at s ck (by omega)]⟩
      obtain ⟨x3, y3⟩ : ∃ u, X.cell? ⟨ck.O, dt * 5 + 3, none⟩ = some u := ⟨_, by rw [cell_of_row X ck.O _ _ _ _ hXO, cells35_at s ck (by omega)]⟩
      obtain ⟨x4, y4⟩ : ∃ u, X.cell? ⟨ck.O, dt * 5 + 4, none⟩ = some u := ⟨_, by rw [cell_of_row X ck.O _ _ _ _ hXO, cells35_at s ck (by omega)]⟩
      have zz : ∀ n, X.frozen? ⟨ck.O, n, none⟩ = false := fun n => by simp [World.frozen?, hXO]
      have z0 := zz (dt * 5)
      have z1 := zz (dt * 5 + 1)
      have z2 := zz (dt * 5 + 2)
      have z3 := zz (dt * 5 + 3)
      have z4 := zz (dt * 5 + 4)
      rw [HCO.out.1] at y0 y1 y2 y3 y4 z0 z1 z2 z3 z4 HK1 HB1
      rw [HCO.out.2, ← hX] at HK1 HB1
      clear b1 b2 b3 b4 b5 b6 b7 hb hX hXB hQB hOB hXO zz zb cb p0 p1 p2
      go_wp2_with fail
      go_meet
      case rel => exact ⟨c1, HK1.out, HC1.out.1, HC1.out.2.1, HC1.out.2.2.1, HC1.out.2.2.2, HB1.out, HN1.out⟩
  case rest =>
    obtain ⟨c1, hk1, hc1O, hc1B, hc1d, hc1l, hbx1, hnf1⟩ := hcut
    have hbt : (stayStep s (k : Int) (dt : Int)).beg (dt : Int) = true := setF_same _ _ _
    obtain ⟨q0, q1, q2, q3, q4⟩ := hk1.run.deal (d := dt) (by omega) hbt
    obtain ⟨ads, cps, hsv, -⟩ := own_slice3 (hk1.run.seen dt (by omega))
    obtain ⟨adw, cpw, hwv, -⟩ := own_slice3 (hk1.run.wrote dt (by omega))
    rw [stay_of] at q1 q2 hsv hwv
    have hnl : (nowK s (k : Int) (dt : Int)).seen.length ≤ 40 ∧ (nowK s (k : Int) (dt : Int)).wrote.length ≤ 40 := by
      unfold nowK
      split
      · exact HKL.out _
      · exact ⟨Nat.zero_le _, Nat.zero_le _⟩
    obtain ⟨r, hr⟩ : ∃ r, nowK s (k : Int) (dt : Int) = r := ⟨_, rfl⟩
    have HR := hid_r hr
    rw [hr] at q1 q2 hsv hwv hnl
    rw [hsv] at q3
    rw [hwv] at q4
    rw [hc1O] at q0 q1 q2 q3 q4
    simp only [Nat.zero_add] at q0 q1 q2 q3 q4
    obtain ⟨ns, hns⟩ : ∃ n, r.seen.length = n := ⟨_, rfl⟩
    obtain ⟨nw, hnw⟩ : ∃ n, r.wrote.length = n := ⟨_, rfl⟩
    rw [hns] at q3 hsv hnl
    rw [hnw] at q4 hwv hnl
    have HSV : Hid (c1.sv (dt : Int) = .slice ads ns cps ∧ c1.wv (dt : Int) = .slice adw nw cpw ∧ r.seen.length = ns ∧ r.wrote.length = nw) := ⟨hsv, hwv, hns, hnw⟩
    have HK1 := hid_r hk1
    have HC1 := hid_r (And.intro hc1O (And.intro hc1B (And.intro hc1d hc1l)))
    have HNF := hid_r hnf1
    have HBX1 := hid_r hbx1
    obtain ⟨p0, p1, p2⟩ := hbx1
    simp only at p0 p1 p2
    have hns40 : ns ≤ 40 := hnl.1
    have hnw40 : nw ≤ 40 := hnl.2
    have hOc : O < wc.heap.size := by rw [← hc1O]; exact hk1.run.part_lt 0 _ (by omega) rfl
    have hQc : Q < wc.heap.size := HBX1.out.lt
    clear hk1 hc1O hc1B hc1d hc1l hnf1 hsv hwv hns hnw hr hnl hbt cb HOW HBX HQF HCO
    go_upto_region 13 with (fail)
    obtain ⟨V, hV⟩ : ∃ V, V = wc.alloc (.cells #[.int .i64 (dt : Int), .int .i64 r.began, .int .i64 r.ended, .slice ads ns cps, .slice adw nw cpw] 39) := ⟨_, rfl⟩
    rw [← hV]
    have hbV : Below wc.heap.size wc V := by rw [hV]; exact (Below.refl _ wc).alloc (Nat.le_refl _) _
    have hdb : DlBx V wc.heap.size (dt : Int) r (.slice ads ns cps) (.slice adw nw cpw) := by rw [hV]; exact heap_alloc_new wc _
    obtain ⟨D, hD⟩ : ∃ D, D = wc.heap.size := ⟨_, rfl⟩
    have HDF : Hid (¬ kFeet c1 D ∧ w.heap.size ≤ D) := ⟨fun hk => by have := HK1.out.run.feet_lt hk; omega, by rw [hD]; exact HK1.out.old.size⟩
    have hDQ : D ≠ Q := by omega
    have HBV := hid_r (HBX1.out.below hbV)
    rw [← hD] at hdb ⊢
    have HRN : Hid (Rnd w V s (k : Int) dt c1 Q D ((dt : Int), a, i) r (.slice ads ns cps) (.slice adw nw cpw) (.slice add s.done.length cpd)) := ⟨HK1.out.below hbV, by omega, fun u hu e => HFR.out (e ▸ hu), HR.out, HSV.out.1, HSV.out.2.1, HC1.out.2.2.1, HBV.out, hdb, HNF.out, HDF.out.1, HDF.out.2, hDQ⟩
    obtain ⟨p0, p1, p2⟩ := HBV.out
    simp only at p0 p1 p2
    have HLEN : Hid (r.seen.length = ns ∧ r.wrote.length = nw ∧ ns ≤ 40 ∧ nw ≤ 40) := ⟨HSV.out.2.2.1, HSV.out.2.2.2, hns40, hnw40⟩
    have HDS : Hid (∀ V', Rnd w V' s (k : Int) dt c1 Q D ((dt : Int), a, i) r (.slice ads ns cps) (.slice adw nw cpw) (.slice add s.done.length cpd) → IsDeals V' (.slice add s.done.length cpd) s.done s.of) := fun V' hR' => by
      have h5 := hR'.own.run.deals (fun t ht => HKD.out t ht) (fun t => by
        by_cases e : t = (dt : Int)
        · rw [e, hR'.of, HLEN.out.1, HLEN.out.2.1]; omega
        · rw [stay_other s (k : Int) e]; have := HKL.out t; omega)
      rw [HC1.out.2.2.1] at h5
      exact deals_congr h5 fun t ht => (stay_other s (k : Int) (hR'.nd t ht)).symm
    clear hV hbV hD hdb q0 q1 q2 q3 q4
    go_upto_block 2 with (fail)
    refine HSW.out _ _ _ _ _ _ _ _ _ _ _ _ _ _ _ _ _ _ _ _ _ _ _ _ _ _ _ _ _ _ _ _ _ _ _ _ _ _ _ _ _ _ _ _ _ _ _ _ _ _ _ _ _ _ _ _ _ _ _ _ _ _ _ _ _ _ _ _ _ _ _ _ _ _ _ _ _ _ _ _ _ _ _ _ _ _ _ _ _ _ _ _ _ _ _ _ _ _ _ _ _ _ _ _ _ _ _ _ _ _ _ _ _ _ _ _ _ _ _ _ _ _ _ _ _ _ _ _ _ _ _ _ _ _ _ _ _ _ _ _ _ _ _ _ _ _ _ _ _ _ _ _ _ _ _ _ _ _ _ _ _ _ _ _ _ _ _ _ _ _ _ _ _ _ _ _ _ _ _ _ _ _ _ _ _ _ _ _ _ _ _ _ _ _ _ _ _ _ _ _ _ _ _ _ _ _ _ _ _ _ _ _ _ _ _ _ _ _ _ _ _ _ _ _ _ _ _ _ _ _ _ _ _ _ _ _ _ _ _ _ _ _ _ _ _ _ a _ _ _ V HRN.out ha HLEN.out HDS.out HKL.out hdn6 HKD.out ⟨⟨hd1, hd6⟩, HFR.out⟩ HND.out HR.out ⟨HC1.out.2.2.2, rfl⟩ hlk ?_
    intro x12 x13 x14 x15 x16 x17 x18 x19 x20 x21 x53 x54 x55 x56 x57 x58 x59 x60 x61 x62 x63 x64 x65 x66 x67 x68 x69 x70 x71 x72 x73 x74 x75 x76 x77 x78 x79 x80 x81 x82 x83 x84 x85 x86 x87 x88 x89 x90 x91 x92 x93 x94 x95 x96 x97 x98 x99 x100 x101 x102 x103 x104 x105 x106 x107 x108 x109 x110 x111 x112 x113 x114 x115 x116 x117 x118 x119 x120 x121 x122 x123 x124 x125 x126 x127 x128 x129 x130 x131 x132 x133 x134 x135 x136 x137 x138 x139 x140 x141 x142 x143 x144 x145 x146 x147 x148 x149 x150 x151 x152 x153 x154 x155 x156 x157 x158 x159 x160 x161 x162 x163 x164 x165 x166 x167 x168 x169 x170 x171 x172 x173 x174 x175 x176 x177 x178 x179 x180 x181 x182 x183 x184 x185 x186 x187 x188 x189 x190 x191 x192 x193 x194 x195 x196 x197 x198 x199 x200 x201 x202 x203 x204 x205 x206 x207 x208 x209 x210 x211 x212 x213 x214 x215 x216 x217 x218 x219 x220 x221 x222 x223 x224 x225 x226 x227 x228 X s' c' b' e' sa wa da la sn sc wn wc' dn dc ln lc hrd hc'O hc'B hc'l he
    have HG2 := hid_r hrd
    have HOO : Hid (c'.O = O ∧ c'.B = B ∧ c'.lv = .slice la ln lc) := ⟨hc'O.trans HC1.out.1, hc'B.trans HC1.out.2.1, hc'l⟩
    obtain ⟨t0, t1, t2, t3, t4⟩ := hrd.cells
    have o0 := hrd.box
    obtain ⟨x0, x1, x2, x3, x4, y0, y1, y2, y3, y4⟩ := hrd.slots
    have z0 := hrd.thaw (dt * 5)
    have z1 := hrd.thaw (dt * 5 + 1)
    have z2 := hrd.thaw (dt * 5 + 2)
    have z3 := hrd.thaw (dt * 5 + 3)
    have z4 := hrd.thaw (dt * 5 + 4)
    rw [HOO.out.1] at y0 y1 y2 y3 y4 z0 z1 z2 z3 z4
    have HHE := hid_r he
    clear hrd hc'O hc'B hc'l he p0 p1 p2
    go_wp2_with fail
    obtain ⟨cz, f1, f2, f3, f4, f5⟩ := HG2.out.fin
    rw [HOO.out.1] at f1
    exact HK.out _ _ _ _ _ _ _ _ _ _ _ _ _ _ _ _ _ _ _ _ _ _ _ _ _ _ _ _ _ _ _ _ _ _ _ _ _ _ _ _ _ _ _ _ _ _ _ _ _ _ _ _ _ _ _ _ _ _ _ _ _ _ _ _ _ _ _ _ _ _ _ _ _ _ _ _ _ _ _ _ _ _ _ _ _ _ _ _ _ _ _ _ _ _ _ _ _ _ _ _ _ _ _ _ _ _ _ _ _ _ _ _ _ _ _ _ _ _ _ _ _ _ _ _ _ _ _ _ _ _ _ _ _ _ _ _ _ _ _ _ _ _ _ _ _ _ _ _ _ _ _ _ _ _ _ _ _ _ _ _ _ _ _ _ _ _ _ _ _ _ _ _ _ _ _ _ _ _ _ _ _ _ _ _ _ _ _ _ _ _ _ _ _ _ _ _ _ _ _ _ _ _ _ _ _ _ _ _ _ _ _ _ _ _ _ _ _ _ cz _ _ _ _ _ _ (HHE.out ▸ f1) (f4.trans HOO.out.1) (f5.trans HOO.out.2.1) f2 (f3.trans HOO.out.2.2)
end Go.Proofs.YtccjognnehoodafDoor
