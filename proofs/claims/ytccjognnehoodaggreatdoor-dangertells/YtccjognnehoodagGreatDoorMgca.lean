/-
  PROVED HERE: laneref2.Run, of any kind whose switch is as asked, answers what the plain run tells, of any ops that are right; so of kinds 1 and 2. Old memory stays as it was.
  Conditions: the ops are right.
  PROVED HERE: laneref2.Run's switch at a Commit, of kind 3: the deal is done, if nobody would be between, or not.
  Conditions: the lists are short.
-/
import Derived.Test.YtccjognnehoodagGreatDoorMgbz
import Derived.Test.YtccjognnehoodagGreatDoorMgav
import Derived.Test.YtccjognnehoodagGreatDoorMgaz
import Derived.Deep.CutBlock
import Derived.Test.YtccjognnehoodagGreatDoorMgby
import Derived.Test.YtccjognnehoodagGreatDoorMgbm
import Derived.Test.YtccjognnehoodagGreatDoorMgbe
import Derived.Test.YtccjognnehoodagGreatDoorMgba
import Derived.Test.YtccjognnehoodagGreatDoorMgbb
import Derived.Deep.Cut
namespace Go.Proofs.YtccjognnehoodagGreatDoor
open Go.RowKit

theorem kst_at (w : World) (T1 T2 : TypeId) (h1 : T1 = 55) (h2 : T2 = 56) : KOwn w ((w.alloc (.cells (cells35 kst0 ⟨w.heap.size, w.heap.size + 1, .slice none 0 0, .slice none 0 0, fun _ => .slice none 0 0, fun _ => .slice none 0 0⟩) T1)).alloc (.cells (cellsB kst0) T2)) kst0 ⟨w.heap.size, w.heap.size + 1, .slice none 0 0, .slice none 0 0, fun _ => .slice none 0 0, fun _ => .slice none 0 0⟩ := by
  subst h1
  subst h2
  have hone : ∀ i k, i < 18 → kPart ⟨w.heap.size, w.heap.size + 1, .slice none 0 0, .slice none 0 0, fun _ => .slice none 0 0, fun _ => .slice none 0 0⟩ i k → (i = 0 ∧ k = w.heap.size) ∨ (i = 1 ∧ k = w.heap.size + 1) := fun i k hi hk => by
    match i, hk with
    | 0, hk => exact .inl ⟨rfl, hk⟩
    | 1, hk => exact .inr ⟨rfl, hk⟩
    | 2, hk => simp [kPart, Value.ownBlock] at hk
    | 3, hk => simp [kPart, Value.ownBlock] at hk
    | e + 4, hk => simp [kPart, Value.ownBlock] at hk
  refine ⟨⟨?_, ?_, World.ownsRow_nil _ _ _ _, World.ownsRow_nil _ _ _ _, fun d _ => World.ownsRow_nil _ _ _ _, fun d _ => World.ownsRow_nil _ _ _ _, fun i j k hi hj hij h1 h2 => ?_⟩, ((Below.refl _ w).alloc (Nat.le_refl _) _).alloc (by simp) _, fun k ⟨i, hi, hk⟩ => ?_⟩
  · rw [((Below.refl (w.heap.size + 1) (w.alloc _)).alloc (by simp) _).block w.heap.size (by omega)]
    exact heap_alloc_new w _
  · have := heap_alloc_new (w.alloc (.cells (cells35 kst0 ⟨w.heap.size, w.heap.size + 1, .slice none 0 0, .slice none 0 0, fun _ => .slice none 0 0, fun _ => .slice none 0 0⟩) 55)) (.cells (cellsB kst0) 56)
    simpa using this
  · have a1 := hone i k hi h1
    have a2 := hone j k hj h2
    omega
  · rcases hone i k hi hk with ⟨_, h⟩ | ⟨_, h⟩ <;> omega
abbrev lay0 (w : World) : KLay := ⟨w.heap.size, w.heap.size + 1, .slice none 0 0, .slice none 0 0, fun _ => .slice none 0 0, fun _ => .slice none 0 0⟩
theorem kst_split {c : Code} {Q : Exit → Act → World → Prop} {a : Act} (w : World) (Z1 Z2 : Array Value) (h1 : cells35 kst0 (lay0 w) = Z1) (h2 : cellsB kst0 = Z2) (h : ∀ W, KOwn w W kst0 (lay0 w) → Code.wp Tryz.prog c Q a W) : Code.wp Tryz.prog c Q a ((w.alloc (.cells Z1 55)).alloc (.cells Z2 56)) := by
  subst h1
  subst h2
  exact h _ (kst_at w _ _ rfl rfl)
set_option maxHeartbeats 32000000 in
set_option maxRecDepth 1000000 in
theorem refRun_any {kind : Int} {okF : Kst → Int → Dl → Bool} (hsw : SwC kind okF) : RefC kind okF := by
  intro l v w hI hc
  obtain ⟨hlen, hop, hcalm⟩ := (chk_iff l).1 hc
  obtain ⟨ad, b, off, cap, rfl, ha, -, hbB, hops⟩ := hI
  have HE : Hid (∀ W, Below w.heap.size w W → ∀ k, k < l.length → ad = some ⟨b, off, none⟩ ∧ b < w.heap.size ∧ W.cell? ⟨b, off + k * 3, none⟩ = some (.int .i64 (opAt l k).1) ∧ W.cell? ⟨b, off + k * 3 + 1, none⟩ = some (.int .i64 (opAt l k).2.1) ∧ W.cell? ⟨b, off + k * 3 + 2, none⟩ = some (.int .i64 (opAt l k).2.2)) := fun W hW k hk => by
    refine ⟨ha (by omega), ?_, (hops.below hW hbB) k hk⟩
    rcases hbB with h | h
    · exact h
    · subst h; simp at hk
  have HOP : Hid (∀ o ∈ l, isOpB o = true) := hop
  have HCA := hid_r hcalm
  have HKO : Hid (∀ k, k ≤ l.length → KOk l k (runK kind okF l k)) := run_kOk kind okF hc
  have hl40 : l.length ≤ 40 := chk_len hc
  have HSW := hid_r hsw
  clear ha hbB hops hop hc hcalm hlen hsw
  go_enter Tryz.func7, Tryz.ntmps7
  go_upto_region 4 with (fail)
  refine kst_split w _ _ rfl rfl ?_
  intro W0 hk0
  have HK0 := hid_r hk0
  obtain ⟨O, hO⟩ : ∃ O, O = w.heap.size := ⟨_, rfl⟩
  obtain ⟨B, hB⟩ : ∃ B, B = w.heap.size + 1 := ⟨_, rfl⟩
  have HO0 : Hid ((lay0 w).O = O ∧ (lay0 w).B = B) := ⟨hO.symm, hB.symm⟩
  rw [← hB, ← hO]
  clear hk0 hO hB
  go_wp2_with fail
  go_loopw [5, 8, 9] (fun v5 v8 v9 wr => ∃ (k : Nat) (ck : KLay), k ≤ l.length ∧ v9 = .int .i64 k ∧ KOwn w wr (runK kind okF l k) ck ∧ v5 = ck.dv ∧ v8 = ck.lv ∧ ck.O = O ∧ ck.B = B) (fun _ _ v9 _ => l.length - (intOf v9).toNat)
  case atStart => exact ⟨0, lay0 w, Nat.zero_le _, rfl, HK0.out, rfl, rfl, HO0.out.1, HO0.out.2⟩
  case round =>
    obtain ⟨k, ck, hk, rfl, hok, rfl, rfl, hckO, hckB⟩ := hrel
    have hkl := (kst_len kind okF l k).1
    have HKK := hid_r (HKO.out k hk)
    obtain ⟨s, hs⟩ : ∃ s, runK kind okF l k = s := ⟨_, rfl⟩
    rw [hs] at hok hkl HKK
    have HSE := hid_r hs
    have HOK := hid_r hok
    have HLKS : Hid (s.looks.length ≤ 40) := by have := (kst_len kind okF l k).2; rw [HSE.out] at this; show _ ≤ _; omega
    have HKL : Hid (∀ t, (s.of t).seen.length ≤ 40 ∧ (s.of t).wrote.length ≤ 40) := fun t => by have := hkl t; omega
    have HCO : Hid (ck.O = O ∧ ck.B = B) := ⟨hckO, hckB⟩
    obtain ⟨add, cpd, hdv, -⟩ := own_slice3 hok.run.done
    obtain ⟨adl, cpl, hlv, -⟩ := own_slice3 hok.run.looks
    rw [hdv, hlv]
    have HDV := hid_r (And.intro hdv hlv)
    clear hok hs hkl hckO hckB HK0 hdv hlv
    by_cases hlt : k < l.length
    · have hlt' : (k : Int) < (l.length : Int) := by omega
      obtain ⟨rfl, hbw, e0, e1, e2⟩ := HE.out wr HOK.out.old k hlt
      have HFR := hid_r (HKK.out.free HCA.out hlt)
      obtain ⟨⟨t, a, i⟩, ho⟩ : ∃ o : Op3, opAt l k = o := ⟨_, rfl⟩
      have hiso : isOpB (t, a, i) = true := by rw [← ho]; exact HOP.out _ (opAt_mem hlt)
      have HNX : Hid (runK kind okF l (k + 1) = stepK kind okF s (k : Int) (t, a, i)) := by show stepK kind okF (runK kind okF l k) _ _ = _; rw [HSE.out, ho]
      rw [ho] at e0 e1 e2 HFR
      simp only at e0 e1 e2
      obtain ⟨h1, h6⟩ := isOp_range hiso
      simp only at h1 h6
      have hwhat : a = 1 ∨ a = 2 ∨ a = 3 ∨ a = 4 := by simp [isOpB] at hiso; omega
      obtain ⟨dt, rfl⟩ : ∃ d : Nat, t = d := ⟨t.toNat, by omega⟩
      have hd1 : 1 ≤ dt := by omega
      have hd6 : dt ≤ 6 := by omega
      have hbR : b < wr.heap.size := Nat.lt_of_lt_of_le hbw HOK.out.old.size
      have hdn6 : s.done.length ≤ 6 := six_len HKK.out.once fun x hx => ⟨(HKK.out.comm x hx).2.1, (HKK.out.comm x hx).2.2.1⟩
      clear ho hiso
      go_upto_block 1 with (fail)
      refine round_blk HSW.out HOK.out HCO.out.1 HCO.out.2 HDV.out.1 HDV.out.2 hbR hlt e0 e1 e2 hd1 hd6 hwhat HFR.out (fun x hx => ⟨(HKK.out.comm x hx).2.1, (HKK.out.comm x hx).2.2.1⟩) HKL.out hdn6 HKK.out.once HLKS.out ?_
      intro u10 u11 u12 u13 u14 u15 u16 u17 u18 u19 u20 u21 u28 u29 u30 u31 u32 u33 u34 u35 u36 u37 u38 u39 u40 u41 u42 u43 u44 u45 u46 u47 u48 u49 u50 u51 u52 u53 u54 u55 u56 u57 u58 u59 u60 u61 u62 u63 u64 u65 u66 u67 u68 u69 u70 u71 u72 u73 u74 u75 u76 u77 u78 u79 u80 u81 u82 u83 u84 u85 u86 u87 u88 u89 u90 u91 u92 u93 u94 u95 u96 u97 u98 u99 u100 u101 u102 u103 u104 u105 u106 u107 u108 u109 u110 u111 u112 u113 u114 u115 u116 u117 u118 u119 u120 u121 u122 u123 u124 u125 u126 u127 u128 u129 u130 u131 u132 u133 u134 u135 u136 u137 u138 u139 u140 u141 u142 u143 u144 u145 u146 u147 u148 u149 u150 u151 u152 u153 u154 u155 u156 u157 u158 u159 u160 u161 u162 u163 u164 u165 u166 u167 u168 u169 u170 u171 u172 u173 u174 u175 u176 u177 u178 u179 u180 u181 u182 u183 u184 u185 u186 u187 u188 u189 u190 u191 u192 u193 u194 u195 u196 u197 u198 u199 u200 u201 u202 u203 u204 u205 u206 u207 u208 u209 u210 u211 u212 u213 u214 u215 u216 u217 u218 u219 u220 u221 u222 u223 u224 u225 u226 u227 u228 u229 u230 u231 u232 X cz da la dn dc ln lc hz hzO hzB hzd hzl
      have HZ := hid_r hz
      have HZ2 := hid_r (And.intro hzO (And.intro hzB (And.intro hzd hzl)))
      clear hz hzO hzB hzd hzl e0 e1 e2
      go_wp2_with fail
      go_roundw
      case rel => exact ⟨k + 1, cz, by omega, by go_num, by rw [HNX.out]; exact HZ.out, HZ2.out.2.2.1.symm, HZ2.out.2.2.2.symm, HZ2.out.1, HZ2.out.2.1⟩
      case measure => simp [intOf]; omega
    · have hlt' : ¬ (k : Int) < (l.length : Int) := by omega
      obtain rfl : k = l.length := by omega
      have HEN : Hid (IsDeals wr ck.dv s.done s.of) := HOK.out.run.deals (fun t ht => ⟨(HKK.out.comm t ht).2.1, (HKK.out.comm t ht).2.2.1⟩) fun t => by have := HKL.out t; omega
      rw [HDV.out.1] at HEN
      go_wp2_with fail
      go_ret
      rw [HSE.out]
      exact ⟨_, rfl, HEN.out, HOK.out.old⟩
theorem refRun1 : RefC 1 okV := refRun_any (swC2 (.inl rfl) fun _ _ _ => rfl)
theorem refRun2 : RefC 2 okS := refRun_any (swC2 (.inr rfl) fun _ _ _ => rfl)
end Go.Proofs.YtccjognnehoodagGreatDoor

namespace Go.Proofs.YtccjognnehoodagGreatDoor
open Go.RowKit

set_option maxHeartbeats 32000000 in
set_option maxRecDepth 1000000 in
theorem sw_commit3 {K : Act → World → Prop} {Q' : Exit → Act → World → Prop} {c0 c2 c3 c4 c6 c7 c12 c13 c14 c15 c16 c17 c18 c19 c20 c21 c22 c23 c24 c25 c26 c27 c28 c29 c30 c31 c32 c33 c34 c35 c36 c37 c38 c39 c40 c41 c42 c43 c44 c45 c46 c47 c48 c49 c50 c51 c53 c54 c55 c56 c57 c58 c59 c60 c61 c62 c63 c64 c65 c66 c67 c68 c69 c70 c71 c72 c73 c74 c75 c76 c77 c78 c79 c80 c81 c82 c83 c84 c85 c86 c87 c88 c89 c90 c91 c92 c93 c94 c95 c96 c97 c98 c99 c100 c101 c102 c103 c104 c105 c106 c107 c108 c109 c110 c111 c112 c113 c114 c115 c116 c117 c118 c119 c120 c121 c122 c123 c124 c125 c126 c127 c128 c129 c130 c131 c132 c133 c134 c135 c136 c137 c138 c139 c140 c141 c142 c143 c144 c145 c146 c147 c148 c149 c150 c151 c152 c153 c154 c155 c156 c157 c158 c159 c160 c161 c162 c163 c164 c165 c166 c167 c168 c169 c170 c171 c172 c173 c174 c175 c176 c177 c178 c179 c180 c181 c182 c183 c184 c185 c186 c187 c188 c189 c190 c191 c192 c193 c194 c195 c196 c197 c198 c199 c200 c201 c202 c203 c204 c205 c206 c207 c208 c209 c210 c211 c212 c213 c214 c215 c216 c217 c218 c219 c220 c221 c222 c223 c224 c225 c226 c227 c228 c229 c230 c231 c232 c233 : Value} {w : World} {s : Kst} {at_ : Int} {dt : Nat} {c1 : KLay} {Q D : Nat} {i : Int} {r : Dl} {ads adw add : Option Addr} {ns cps nw cpw cpd : Nat} {adl : Option Addr} {nlk cpl : Nat} (V : World) (hR : Rnd w V s at_ dt c1 Q D ((dt : Int), 3, i) r (.slice ads ns cps) (.slice adw nw cpw) (.slice add s.done.length cpd)) (hlen : r.seen.length = ns ∧ r.wrote.length = nw ∧ ns ≤ 40 ∧ nw ≤ 40) (hDS : ∀ V', Rnd w V' s at_ dt c1 Q D ((dt : Int), 3, i) r (.slice ads ns cps) (.slice adw nw cpw) (.slice add s.done.length cpd) → IsDeals V' (.slice add s.done.length cpd) s.done s.of) (hKL : ∀ t, (s.of t).seen.length ≤ 40 ∧ (s.of t).wrote.length ≤ 40) (hdn6 : s.done.length ≤ 6) (hkd : ∀ t ∈ s.done, 1 ≤ t ∧ t ≤ 6) (hfr : (1 ≤ dt ∧ dt ≤ 6) ∧ (dt : Int) ∉ s.done) (hnd : s.done.Nodup)
    (hK : ∀ (u12 u13 u14 u15 u16 u17 u18 u19 u20 u21 u53 u54 u55 u56 u57 u58 u59 u60 u61 u62 u63 u64 u65 u66 u67 u68 u69 u70 u71 u72 u73 u74 u75 u76 u77 u78 u79 u80 u81 u82 u83 u84 u85 u86 u87 u88 u89 u90 u91 u92 u93 u94 u95 u96 u97 u98 u99 u100 u101 u102 u103 u104 u105 u106 u107 u108 u109 u110 u111 u112 u113 u114 u115 u116 u117 u118 u119 u120 u121 u122 u123 u124 u125 u126 u127 u128 u129 u130 u131 u132 u133 u134 u135 u136 u137 u138 u139 u140 u141 u142 u143 u144 u145 u146 u147 u148 u149 u150 u151 u152 u153 u154 u155 u156 u157 u158 u159 u160 u161 u162 u163 u164 u165 u166 u167 u168 u169 u170 u171 u172 u173 u174 u175 u176 u177 u178 u179 u180 u181 u182 u183 u184 u185 u186 u187 u188 u189 u190 u191 u192 u193 u194 u195 u196 u197 u198 u199 u200 u201 u202 u203 u204 u205 u206 u207 u208 u209 u210 u211 u212 u213 u214 u215 u216 u217 u218 u219 u220 u221 u222 u223 u224 u225 u226 u227 u228 : Value) (X : World) (s' : Kst) (b' e' : Int) (sa wa da : Option Addr) (sn sc wn wc dn dc : Nat), Ready w X s' c1 Q D dt (dt : Int) b' e' (.slice sa sn sc) (.slice wa wn wc) (.slice da dn dc) → s' = (if okBtw s (dt : Int) r = true then { s with of := setF s.of (dt : Int) { r with ended := at_ }, beg := setF s.beg (dt : Int) true, done := s.done ++ [(dt : Int)] } else { s with of := setF s.of (dt : Int) r, beg := setF s.beg (dt : Int) true, done := s.done }) → K ⟨#[c0, .int .i64 3, c2, c3, c4, .slice da dn dc, c6, c7, .slice adl nlk cpl, .int .i64 at_, .pointer (some ⟨Q, 0, none⟩), .pointer (some ⟨D, 0, none⟩), u12, u13, u14, u15, u16, u17, u18, u19, u20, u21, c22, c23, c24, c25, c26, c27, c28, c29, c30, c31, c32, c33, c34, c35, c36, c37, c38, c39, c40, c41, c42, c43, c44, c45, c46, c47, c48, c49, c50, c51, .int .i64 3, u53, u54, u55, u56, u57, u58, u59, u60, u61, u62, u63, u64, u65, u66, u67, u68, u69, u70, u71, u72, u73, u74, u75, u76, u77, u78, u79, u80, u81, u82, u83, u84, u85, u86, u87, u88, u89, u90, u91, u92, u93, u94, u95, u96, u97, u98, u99, u100, u101, u102, u103, u104, u105, u106, u107, u108, u109, u110, u111, u112, u113, u114, u115, u116, u117, u118, u119, u120, u121, u122, u123, u124, u125, u126, u127, u128, u129, u130, u131, u132, u133, u134, u135, u136, u137, u138, u139, u140, u141, u142, u143, u144, u145, u146, u147, u148, u149, u150, u151, u152, u153, u154, u155, u156, u157, u158, u159, u160, u161, u162, u163, u164, u165, u166, u167, u168, u169, u170, u171, u172, u173, u174, u175, u176, u177, u178, u179, u180, u181, u182, u183, u184, u185, u186, u187, u188, u189, u190, u191, u192, u193, u194, u195, u196, u197, u198, u199, u200, u201, u202, u203, u204, u205, u206, u207, u208, u209, u210, u211, u212, u213, u214, u215, u216, u217, u218, u219, u220, u221, u222, u223, u224, u225, u226, u227, u228, c229, c230, c231, c232, c233], []⟩ X) :
    Code.wp Tryz.prog ((Tryz.f7.body.bind (blkOf 2)).getD .skip) (Exit.then K Q') ⟨#[c0, .int .i64 3, c2, c3, c4, .slice add s.done.length cpd, c6, c7, .slice adl nlk cpl, .int .i64 at_, .pointer (some ⟨Q, 0, none⟩), .pointer (some ⟨D, 0, none⟩), c12, c13, c14, c15, c16, c17, c18, c19, c20, c21, c22, c23, c24, c25, c26, c27, c28, c29, c30, c31, c32, c33, c34, c35, c36, c37, c38, c39, c40, c41, c42, c43, c44, c45, c46, c47, c48, c49, c50, c51, .int .i64 3, c53, c54, c55, c56, c57, c58, c59, c60, c61, c62, c63, c64, c65, c66, c67, c68, c69, c70, c71, c72, c73, c74, c75, c76, c77, c78, c79, c80, c81, c82, c83, c84, c85, c86, c87, c88, c89, c90, c91, c92, c93, c94, c95, c96, c97, c98, c99, c100, c101, c102, c103, c104, c105, c106, c107, c108, c109, c110, c111, c112, c113, c114, c115, c116, c117, c118, c119, c120, c121, c122, c123, c124, c125, c126, c127, c128, c129, c130, c131, c132, c133, c134, c135, c136, c137, c138, c139, c140, c141, c142, c143, c144, c145, c146, c147, c148, c149, c150, c151, c152, c153, c154, c155, c156, c157, c158, c159, c160, c161, c162, c163, c164, c165, c166, c167, c168, c169, c170, c171, c172, c173, c174, c175, c176, c177, c178, c179, c180, c181, c182, c183, c184, c185, c186, c187, c188, c189, c190, c191, c192, c193, c194, c195, c196, c197, c198, c199, c200, c201, c202, c203, c204, c205, c206, c207, c208, c209, c210, c211, c212, c213, c214, c215, c216, c217, c218, c219, c220, c221, c222, c223, c224, c225, c226, c227, c228, c229, c230, c231, c232, c233], []⟩ V := by
  conv => arg 2; whnf
  have HRN := hid_r hR
  have HLEN := hid_r hlen
  have HK := hid_r hK
  have hns40 := hlen.2.2.1
  have hnw40 := hlen.2.2.2
  obtain ⟨d0, d1, d2, d3, d4⟩ := hR.dl.cells
  obtain ⟨p0, p1, p2⟩ := hR.box
  simp only at p0 p1 p2
  have hDl : D < V.heap.size := hR.dl.lt
  have HKL := hid_r hKL
  have HDS := hid_r hDS
  have HKD := hid_r (And.intro hkd hfr)
  have HND := hid_r hnd
  obtain ⟨d00, hi, hz0, hs0, hy0⟩ := info_parts infoDealK
  have HDI : Hid (Tryz.prog.info? 50 = some d00 ∧ d00.zero = some (.agg #[.int .i64 0, .int .i64 0, .int .i64 0, .slice none 0 0, .slice none 0 0]) ∧ d00.size = 5 ∧ d00.bytes = 72) := ⟨hi, hz0, hs0, hy0⟩
  clear hR hlen hK hi hz0 hs0 hy0 hDS hKL hkd hfr hnd
  go_upto_block 4 with (fail)
  refine hit_blk 3 (by decide) V HRN.out HDS.out HLEN.out HKL.out hdn6 ?_
  intro x15 x16 x17 x18 x118 x119 x120 x121 x122 x123 x124 x125 x126 x127 x128 x129 x130 x131 x132 x133 x134 x135 x136 x137 x138 x139 x140 x141 x142 x143 x144 x145 x146 x147 x148 x149 x150 x151 x152 x153 x154 x155 x156 x157 x158 x159 x160 x161 x162 x163 x164 x165 V' hR'
  have HRX := hid_r hR'
  obtain ⟨hb, hhb⟩ : ∃ hb, hitK 3 s (dt : Int) r = hb := ⟨_, rfl⟩
  rw [hhb]
  have HHB := hid_r hhb
  clear hR' hhb d0 d1 d2 d3 d4 p0 p1 p2 hDl
  go_upto_block 8 with (fail)
  refine looks_no (by decide) V' ?_
  intro y20 y166 y167 y168 y169 y170 y171 y172 y173 y174 y175 y176 y177 y178 y179 y180 y181 y182 y183 y184 y185 y186 y187 y188 y189 y190 y191 y192 y193 y194 y195 y196 y197 y198 y199 y200 y201 y202 y203 y204
  obtain ⟨t0, t1, t2, t3, t4⟩ := HRX.out.dl.cells
  have hDx := HRX.out.dl.lt
  cases hb with
  | true =>
    have HG2 := hid_r (HRX.out.stays rfl)
    have HNX : Hid ({ s with of := setF s.of (dt : Int) r, beg := setF s.beg (dt : Int) true, done := s.done } = (if okBtw s (dt : Int) r = true then { s with of := setF s.of (dt : Int) { r with ended := at_ }, beg := setF s.beg (dt : Int) true, done := s.done ++ [(dt : Int)] } else { s with of := setF s.of (dt : Int) r, beg := setF s.beg (dt : Int) true, done := s.done })) := by show _ = _; unfold okBtw; rw [HHB.out, if_neg (by simp)]
    go_wp2_with fail
    exact HK.out _ _ _ _ _ _ _ _ _ _ _ _ _ _ _ _ _ _ _ _ _ _ _ _ _ _ _ _ _ _ _ _ _ _ _ _ _ _ _ _ _ _ _ _ _ _ _ _ _ _ _ _ _ _ _ _ _ _ _ _ _ _ _ _ _ _ _ _ _ _ _ _ _ _ _ _ _ _ _ _ _ _ _ _ _ _ _ _ _ _ _ _ _ _ _ _ _ _ _ _ _ _ _ _ _ _ _ _ _ _ _ _ _ _ _ _ _ _ _ _ _ _ _ _ _ _ _ _ _ _ _ _ _ _ _ _ _ _ _ _ _ _ _ _ _ _ _ _ _ _ _ _ _ _ _ _ _ _ _ _ _ _ _ _ _ _ _ _ _ _ _ _ _ _ _ _ _ _ _ _ _ _ _ _ _ _ _ _ _ _ _ _ _ _ _ _ _ _ _ HG2.out HNX.out
  | false =>
    have HSR : Hid (SrcAt V' (.slice add s.done.length cpd) s.done.length 5 (flatD (stayStep s at_ (dt : Int)) c1 s.done)) := srcAt_own HRX.out.doneR
    have HON : Hid (∀ u ∈ flatD (stayStep s at_ (dt : Int)) c1 s.done, u.oneCell' = true) := flatD_one _ _ _ fun t ht => by
      obtain ⟨h1, h6⟩ := HKD.out.1 t ht
      obtain ⟨d, rfl⟩ : ∃ d : Nat, t = d := ⟨t.toNat, by omega⟩
      obtain ⟨x1, y1, e1, -⟩ := own_slice3 (HRX.out.own.run.seen d (by omega))
      obtain ⟨x2, y2, e2, -⟩ := own_slice3 (HRX.out.own.run.wrote d (by omega))
      rw [e1, e2]
      exact ⟨rfl, rfl⟩
    go_upto_region 51 with (at_builtin; refine wpList_append_src _ rfl (.tmp 210) (.tmp 211) 27 rfl V'.heap.size 50 d00 (.agg #[.int .i64 0, .int .i64 0, .int .i64 0, .slice none 0 0, .slice none 0 0]) 5 72 Tryz.underlying27 HDI.out.1 HDI.out.2.1 HDI.out.2.2.1 HDI.out.2.2.2 rfl (by decide) (.slice none 0 0) 0 [] rfl (World.ownsRow_nil _ _ _ _) (.slice add s.done.length cpd) s.done.length (flatD (stayStep s at_ (dt : Int)) c1 s.done) rfl HSR.out HON.out (by unfold maxLen; omega) (by omega) (Nat.le_refl _) ?_; intro v2 w2 hown2 hgr2 hap2)
    have hb2 : Below V'.heap.size V' w2 := ⟨hgr2.os, hgr2.tape, hgr2.output, hgr2.size, fun k hk => hgr2.block k hk (by simp [Value.ownBlock])⟩
    obtain ⟨ad7, c7', hv7, -⟩ := own_slice3 hown2
    subst hv7
    rw [Nat.zero_add, List.nil_append] at hown2
    rw [Nat.zero_add]
    have HO2 := hid_r hown2
    have HB2 := hid_r hb2
    have HR2 := hid_r (HRX.out.below hb2)
    obtain ⟨m0, m1, m2, m3, m4⟩ := HR2.out.dl.cells
    have HS2 : Hid (V'.heap.size ≤ w2.heap.size) := hb2.size
    clear hown2 hgr2 hap2 hb2 t0 t1 t2 t3 t4 HSR HON
    go_upto_region 52 with (at_builtin; refine wpList_append_apart _ rfl (.tmp 213) (.tmp 215) 27 rfl V'.heap.size 50 d00 (.agg #[.int .i64 0, .int .i64 0, .int .i64 0, .slice none 0 0, .slice none 0 0]) 5 72 Tryz.underlying27 HDI.out.1 HDI.out.2.1 HDI.out.2.2.1 HDI.out.2.2.2 rfl (by decide) (.slice ad7 s.done.length c7') s.done.length (flatD (stayStep s at_ (dt : Int)) c1 s.done) rfl (HO2.out.alloc _) ⟨w2.heap.size, 0, none⟩ 1 1 [.int .i64 (dt : Int), .int .i64 r.began, .int .i64 r.ended, .slice ads ns cps, .slice adw nw cpw] rfl rfl (deal_new w2 _ _ _ _ _ _) (by simp [Value.oneCell']) (by unfold maxLen; omega) (by omega) (by have := HS2.out; simp; omega) ?_; intro v3 w3 hown3 hgr3 hap3)
    have hb3 : Below V'.heap.size V' w3 := HB2.out.trans ((((Below.refl V'.heap.size w2).alloc HS2.out _).grown hgr3 (by have := HS2.out; simp; omega) (fun g hg => (HO2.out.lt g hg).1)))
    have HR3 := hid_r (HRX.out.below hb3)
    have hrow : w3.ownsRow V'.heap.size 50 5 v3 (s.done ++ [(dt : Int)]).length (flatD (stayStep s at_ (dt : Int)) c1 (s.done ++ [(dt : Int)])) := by
      rw [flatD_append, List.length_append]
      have : flatD (stayStep s at_ (dt : Int)) c1 [(dt : Int)] = [.int .i64 (dt : Int), .int .i64 r.began, .int .i64 r.ended, .slice ads ns cps, .slice adw nw cpw] := by
        unfold flatD
        simp [HRX.out.of, HRX.out.hsv, HRX.out.hwv]
      rw [this]
      exact hown3
    have hof : (stayStep s at_ (dt : Int)).of = setF s.of (dt : Int) r := by
      show setF s.of (dt : Int) (nowK s at_ (dt : Int)) = _
      rw [HRX.out.now]
    have hlenS : ∀ t, ((stayStep s at_ (dt : Int)).of t).seen.length ≤ 40 ∧ ((stayStep s at_ (dt : Int)).of t).wrote.length ≤ 40 := fun t => by
      rw [hof]
      unfold setF
      split
      · rw [HLEN.out.1, HLEN.out.2.1]; exact HLEN.out.2.2
      · exact HKL.out t
    have hids : IsDeals w3 v3 (s.done ++ [(dt : Int)]) (stayStep s at_ (dt : Int)).of := deals_of_row hrow fun t ht => by
      have h16 : 1 ≤ t ∧ t ≤ 6 := by
        rcases List.mem_append.1 ht with h | h
        · exact HKD.out.1 t h
        · rw [List.mem_singleton.1 h]; have := HKD.out.2.1; omega
      obtain ⟨d, rfl⟩ : ∃ d : Nat, t = d := ⟨t.toNat, by omega⟩
      exact HR3.out.own.run.dl (by omega) (by have := hlenS (d : Int); omega)
    have hndp : (s.done ++ [(dt : Int)]).Nodup := by
      rw [List.nodup_append]
      refine ⟨HND.out, by simp, fun x hx y hy e => ?_⟩
      rw [List.mem_singleton.1 hy] at e
      exact HKD.out.2.2 (e ▸ hx)
    have HANT := hid_r (anti_any (s.done ++ [(dt : Int)]) _ v3 w3 hids (by rw [List.length_append]; simp; omega) hndp fun y => (hlenS y).2)
    have HANL : Hid ((antiE (stayStep s at_ (dt : Int)).of (s.done ++ [(dt : Int)])).length ≤ 4000) := by
      have := antiXs_len (stayStep s at_ (dt : Int)).of (s.done ++ [(dt : Int)]) (fun y => (hlenS y).2) (by rw [List.length_append]; simp; omega) (s.done ++ [(dt : Int)]) []
      show (antiE _ _).length ≤ 4000
      unfold antiE
      rw [List.length_append] at this
      simp at this ⊢
      omega
    have HPIV : Hid (pivTo (antiE (stayStep s at_ (dt : Int)).of (s.done ++ [(dt : Int)])) 6 = [] ↔ pivL (setF s.of (dt : Int) r) (s.done ++ [(dt : Int)]) = false) := by
      rw [← hof]
      refine piv_none fun t ht => ?_
      rcases List.mem_append.1 ht with h | h
      · exact HKD.out.1 t h
      · rw [List.mem_singleton.1 h]; have := HKD.out.2.1; omega
    obtain ⟨ad8, c8', hv8, -⟩ := own_slice3 hown3
    subst hv8
    obtain ⟨AE, hAE⟩ : ∃ x, antiE (stayStep s at_ (dt : Int)).of (s.done ++ [(dt : Int)]) = x := ⟨_, rfl⟩
    rw [hAE] at HANT HANL HPIV
    have HB3 := hid_r hb3
    clear hown3 hgr3 hap3 hb3 hrow hof hlenS hids hndp hAE m0 m1 m2 m3 m4 HO2 HB2 HR2 HS2
    go_wp2_with fail
    refine HANT.out.mono ?_
    rintro e w4 ⟨v4, rfl, hed4, hb4⟩
    have HB4 : Hid (Below V'.heap.size V' w4) := HB3.out.trans (hb4.mono HB3.out.size)
    have HPV := hid_r (pivots_any AE v4 w4 hed4 HANL.out)
    obtain ⟨x4, y4, z4, hv4⟩ : ∃ ad n c, v4 = .slice ad n c := by obtain ⟨ad, _, _, cap, hv, _⟩ := hed4; exact ⟨ad, _, cap, hv⟩
    subst hv4
    clear hed4 hb4 HANT HB3 HR3
    go_wp2_with fail
    refine HPV.out.mono ?_
    rintro e w5 ⟨v5, rfl, hpo5, hb5⟩
    have HB5 : Hid (Below V'.heap.size V' w5) := HB4.out.trans (hb5.mono HB4.out.size)
    have HR5 := hid_r (HRX.out.below HB5.out)
    obtain ⟨x5, z5, hv5, -⟩ := own_slice3 hpo5
    subst hv5
    obtain ⟨np, hnp⟩ : ∃ n, (pivTo AE 6).length = n := ⟨_, rfl⟩
    have HNP : Hid (np = 0 ↔ pivL (setF s.of (dt : Int) r) (s.done ++ [(dt : Int)]) = false) := by
      rw [← hnp]
      exact List.length_eq_zero_iff.trans HPIV.out
    rw [hnp]
    obtain ⟨t0, t1, t2, t3, t4⟩ := HR5.out.dl.cells
    have tz := HR5.out.dl.thaw 2
    have hD5 := HR5.out.dl.lt
    clear hpo5 hb5 hnp HPV HB4 HPIV HANL
    by_cases hz : np = 0
    · have hzb : ((np : Int) == 0) = true := by simp [hz]
      have HNX : Hid ({ s with of := setF s.of (dt : Int) { r with ended := at_ }, beg := setF s.beg (dt : Int) true, done := s.done ++ [(dt : Int)] } = (if okBtw s (dt : Int) r = true then { s with of := setF s.of (dt : Int) { r with ended := at_ }, beg := setF s.beg (dt : Int) true, done := s.done ++ [(dt : Int)] } else { s with of := setF s.of (dt : Int) r, beg := setF s.beg (dt : Int) true, done := s.done })) := by show _ = _; unfold okBtw; rw [HHB.out, HNP.out.1 hz, if_pos (by decide)]
      clear hz
      go_upto_region 55 with (fail)
      obtain ⟨V2, hV2⟩ : ∃ V2, V2 = w5.setCell ⟨D, 2, none⟩ (.int .i64 at_) := ⟨_, rfl⟩
      rw [← hV2]
      obtain ⟨e1, e2, e3⟩ := HR5.out.ended
      rw [← hV2] at e1 e2 e3
      have HE3 := hid_r e3
      obtain ⟨w0', w1', w2', w3', w4'⟩ := e1.cells
      have HPT : Hid (∀ (v2 : Value) (w2 : World) (ob : Obj), w2.ownsRow 0 50 5 v2 (s.done.length + 1) (flatD (stayStep s at_ (dt : Int)) c1 s.done ++ [.int .i64 (dt : Int), .int .i64 r.began, .int .i64 at_, .slice ads ns cps, .slice adw nw cpw]) → (V2.alloc ob).grownBy w2 (Value.slice add s.done.length cpd).ownBlock → (∀ j, v2.ownBlock = some j → (Value.slice add s.done.length cpd).ownBlock = some j ∨ (V2.alloc ob).heap.size ≤ j) → Ready w w2 { s with of := setF s.of (dt : Int) { r with ended := at_ }, beg := setF s.beg (dt : Int) true, done := s.done ++ [(dt : Int)] } c1 Q D dt (dt : Int) r.began at_ (.slice ads ns cps) (.slice adw nw cpw) v2) := fun v2 w2 ob g1 g2 g3 => HR5.out.done rfl (by rw [← hV2]; exact g2) g1 (by rw [← hV2]; exact g3)
      clear hV2 e1 e2 e3 t0 t1 t2 t3 t4 tz
      go_wp2_with (at_builtin; refine wpList_append_apart _ rfl (.tmp 225) (.tmp 227) 27 rfl 0 50 d00 (.agg #[.int .i64 0, .int .i64 0, .int .i64 0, .slice none 0 0, .slice none 0 0]) 5 72 Tryz.underlying27 HDI.out.1 HDI.out.2.1 HDI.out.2.2.1 HDI.out.2.2.2 rfl (by decide) (.slice add s.done.length cpd) s.done.length (flatD (stayStep s at_ (dt : Int)) c1 s.done) rfl (HE3.out.alloc _) ⟨V2.heap.size, 0, none⟩ 1 1 [.int .i64 (dt : Int), .int .i64 r.began, .int .i64 at_, .slice ads ns cps, .slice adw nw cpw] rfl rfl (deal_new V2 _ _ _ _ _ _) (by simp [Value.oneCell']) (by unfold maxLen; omega) (by omega) (Nat.zero_le _) ?_; intro v2 w2 hown2 hgr2 hap2; have g2 := HPT.out v2 w2 _ hown2 hgr2 hap2; clear hap2 hgr2; obtain ⟨ad6, c6', rfl, -⟩ := own_slice3 hown2; have HG2 := hid_r g2; clear g2 hown2)
      exact HK.out _ _ _ _ _ _ _ _ _ _ _ _ _ _ _ _ _ _ _ _ _ _ _ _ _ _ _ _ _ _ _ _ _ _ _ _ _ _ _ _ _ _ _ _ _ _ _ _ _ _ _ _ _ _ _ _ _ _ _ _ _ _ _ _ _ _ _ _ _ _ _ _ _ _ _ _ _ _ _ _ _ _ _ _ _ _ _ _ _ _ _ _ _ _ _ _ _ _ _ _ _ _ _ _ _ _ _ _ _ _ _ _ _ _ _ _ _ _ _ _ _ _ _ _ _ _ _ _ _ _ _ _ _ _ _ _ _ _ _ _ _ _ _ _ _ _ _ _ _ _ _ _ _ _ _ _ _ _ _ _ _ _ _ _ _ _ _ _ _ _ _ _ _ _ _ _ _ _ _ _ _ _ _ _ _ _ _ _ _ _ _ _ _ _ _ _ _ _ _ HG2.out HNX.out
    · have hzb : ((np : Int) == 0) = false := by simp; omega
      have HNX : Hid ({ s with of := setF s.of (dt : Int) r, beg := setF s.beg (dt : Int) true, done := s.done } = (if okBtw s (dt : Int) r = true then { s with of := setF s.of (dt : Int) { r with ended := at_ }, beg := setF s.beg (dt : Int) true, done := s.done ++ [(dt : Int)] } else { s with of := setF s.of (dt : Int) r, beg := setF s.beg (dt : Int) true, done := s.done })) := by
        show _ = _
        unfold okBtw
        have hp : pivL (setF s.of (dt : Int) r) (s.done ++ [(dt : Int)]) = true := by
          cases hp : pivL (setF s.of (dt : Int) r) (s.done ++ [(dt : Int)]) with
          | true => rfl
          | false => exact absurd (HNP.out.2 hp) hz
        rw [hp, if_neg (by simp)]
      have HG2 := hid_r (HR5.out.stays rfl)
      clear hz
      go_wp2_with fail
      exact HK.out _ _ _ _ _ _ _ _ _ _ _ _ _ _ _ _ _ _ _ _ _ _ _ _ _ _ _ _ _ _ _ _ _ _ _ _ _ _ _ _ _ _ _ _ _ _ _ _ _ _ _ _ _ _ _ _ _ _ _ _ _ _ _ _ _ _ _ _ _ _ _ _ _ _ _ _ _ _ _ _ _ _ _ _ _ _ _ _ _ _ _ _ _ _ _ _ _ _ _ _ _ _ _ _ _ _ _ _ _ _ _ _ _ _ _ _ _ _ _ _ _ _ _ _ _ _ _ _ _ _ _ _ _ _ _ _ _ _ _ _ _ _ _ _ _ _ _ _ _ _ _ _ _ _ _ _ _ _ _ _ _ _ _ _ _ _ _ _ _ _ _ _ _ _ _ _ _ _ _ _ _ _ _ _ _ _ _ _ _ _ _ _ _ _ _ _ _ _ _ HG2.out HNX.out
end Go.Proofs.YtccjognnehoodagGreatDoor
