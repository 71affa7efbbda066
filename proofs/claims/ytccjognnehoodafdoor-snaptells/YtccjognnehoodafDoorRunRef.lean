/-
  PROVED HERE: laneref2.Run, of any kind whose switch is as asked, answers what the plain run tells, of any ops that are right; so of kinds 1 and 2. Old memory stays as it was.
  Conditions: the ops are right.
-/
import Derived.Test.YtccjognnehoodafDoorRunRnd
import Derived.Test.YtccjognnehoodafDoorMgav
import Derived.Test.YtccjognnehoodafDoorMgaz
import Derived.Deep.CutBlock
namespace Go.Proofs.YtccjognnehoodafDoor
open Go.RowKit

theorem kst_at (w : World) (T1 T2 : TypeId) (h1 : T1 = 56) (h2 : T2 = 57) : KOwn w ((w.alloc (.cells (cells35 kst0 ⟨w.heap.size, w.heap.size + 1, .slice none 0 0, .slice none 0 0, fun _ => .slice none 0 0, fun _ => .slice none 0 0⟩) T1)).alloc (.cells (cellsB kst0) T2)) kst0 ⟨w.heap.size, w.heap.size + 1, .slice none 0 0, .slice none 0 0, fun _ => .slice none 0 0, fun _ => .slice none 0 0⟩ := by
  subst h1
  subst h2
  have hone : ∀ i k, i < 18 → kPart ⟨w.heap.size, w.heap.size + 1, .slice none 0 0, .slice none 0 0, fun _ => .slice none 0 0, fun _ => .slice none 0 0⟩ i k → (i = 0 ∧ k = w.heap.size) ∨ (i = 1 ∧ k = w.heap.size + 1) := fun i k hi hk => by
    match i, hk with
    | 0, hk => exact .inl ⟨rfl, hk⟩
    | 1, hk => exact .inr ⟨rfl, hk⟩
    | 2, hk => simp [kPart, Value.ownBlock] at hk
    | 3, hk => simp [kPart, Value.ownBlock] at hk
    | e + 4, hk => simp [kPart, Value.ownBlock] at hk
  refine ⟨⟨?_, ?_, World.ownsRow_nil _ _ _ _, World.ownsRow_nil _ _ _ _, fun d _ => World.ownsRow_nil _ _ _ _, fun d _ => World.ownsRow_nil _ _ _ _, fun i j k hi hj hij h1 h2 => ?_⟩, ((Below.refl _ w).alloc (Nat.le_refl _) _).alloc (by simp) _, fun k ⟨i, hi, hk⟩ => ?_⟩
  · rw [((Below.refl (w.heap.size + 1) (w.alloc _)).alloc (by simp) _).block w.heap.size (by omega)]
    exact heap_alloc_new w _
  · have := heap_alloc_new (w.alloc (.cells (cells35 kst0 ⟨w.heap.size, w.heap.size + 1, .slice none 0 0, .slice none 0 0, fun _ => .slice none 0 0, fun _ => .slice none 0 0⟩) 56)) (.cells (cellsB kst0) 57)
    simpa using this
  · have a1 := hone i k hi h1
    have a2 := hone j k hj h2
    omega
  · rcases hone i k hi hk with ⟨_, h⟩ | ⟨_, h⟩ <;> omega
abbrev lay0 (w : World) : KLay := ⟨w.heap.size, w.heap.size + 1, .slice none 0 0, .slice none 0 0, fun _ => .slice none 0 0, fun _ => .slice none 0 0⟩
theorem kst_split {c : Code} {Q : Exit → Act → World → Prop} {a : Act} (w : World) (Z1 Z2 : Array Value) (h1 : cells35 kst0 (lay0 w) = Z1) (h2 : cellsB kst0 = Z2) (h : ∀ W, KOwn w W kst0 (lay0 w) → Code.wp Tryd.prog c Q a W) : Code.wp Tryd.prog c Q a ((w.alloc (.cells Z1 56)).alloc (.cells Z2 57)) := by
  subst h1
  subst h2
  exact h _ (kst_at w _ _ rfl rfl)
set_option maxHeartbeats 32000000 in
set_option maxRecDepth 1000000 in
theorem refRun_any {kind : Int} {okF : Kst → Int → Dl → Bool} (hsw : SwC kind okF) : RefC kind okF := by
  intro l v w hI hc
  obtain ⟨hlen, hop, hcalm⟩ := (chk_iff l).1 hc
  obtain ⟨ad, b, off, cap, rfl, ha, -, hbB, hops⟩ := hI
  have HE : Hid (∀ W, Below w.heap.size w W → ∀ k, k < l.length → ad = some ⟨b, off, none⟩ ∧ b < w.heap.size ∧ W.cell? ⟨b, off + k * 3, none⟩ = some (.int .i64 (opAt l k).1) ∧ W.cell? ⟨b, off + k * 3 + 1, none⟩ = some (.int .i64 (opAt l k).2.1) ∧ W.cell? ⟨b, off + k * 3 + 2, none⟩ = some (.int .i64 (opAt l k).2.2)) := fun W hW k hk => by
    refine ⟨ha (by omega), ?_, (hops.below hW hbB) k hk⟩
    rcases hbB with h | h
    · exact h
    · subst h; simp at hk
  have HOP : Hid (∀ o ∈ l, isOpB o = true) := hop
  have HCA := hid_r hcalm
  have HKO : Hid (∀ k, k ≤ l.length → KOk l k (runK kind okF l k)) := run_kOk kind okF hc
  have hl40 : l.length ≤ 40 := chk_len hc
  have HSW := hid_r hsw
  clear ha hbB hops hop hc hcalm hlen hsw
  go_enter Tryd.func8, Tryd.ntmps8
  go_upto_region 4 with (fail)
  refine kst_split w _ _ rfl rfl ?_
  intro W0 hk0
  have HK0 := hid_r hk0
  obtain ⟨O, hO⟩ : ∃ O, O = w.heap.size := ⟨_, rfl⟩
  obtain ⟨B, hB⟩ : ∃ B, B = w.heap.size + 1 := ⟨_, rfl⟩
  have HO0 : Hid ((lay0 w).O = O ∧ (lay0 w).B = B) := ⟨hO.symm, hB.symm⟩
  rw [← hB, ← hO]
  clear hk0 hO hB
  go_wp2_with fail
  go_loopw [5, 8, 9] (fun v5 v8 v9 wr => ∃ (k : Nat) (ck : KLay), k ≤ l.length ∧ v9 = .int .i64 k ∧ KOwn w wr (runK kind okF l k) ck ∧ v5 = ck.dv ∧ v8 = ck.lv ∧ ck.O = O ∧ ck.B = B) (fun _ _ v9 _ => l.length - (intOf v9).toNat)
  case atStart => exact ⟨0, lay0 w, Nat.zero_le _, rfl, HK0.out, rfl, rfl, HO0.out.1, HO0.out.2⟩
  case round =>
    obtain ⟨k, ck, hk, rfl, hok, rfl, rfl, hckO, hckB⟩ := hrel
    have hkl := (kst_len kind okF l k).1
    have HKK := hid_r (HKO.out k hk)
    obtain ⟨s, hs⟩ : ∃ s, runK kind okF l k = s := ⟨_, rfl⟩
    rw [hs] at hok hkl HKK
    have HSE := hid_r hs
    have HOK := hid_r hok
    have HLKS : Hid (s.looks.length ≤ 40) := by have := (kst_len kind okF l k).2; rw [HSE.out] at this; show _ ≤ _; omega
    have HKL : Hid (∀ t, (s.of t).seen.length ≤ 40 ∧ (s.of t).wrote.length ≤ 40) := fun t => by have := hkl t; omega
    have HCO : Hid (ck.O = O ∧ ck.B = B) := ⟨hckO, hckB⟩
    obtain ⟨add, cpd, hdv, -⟩ := own_slice3 hok.run.done
    obtain ⟨adl, cpl, hlv, -⟩ := own_slice3 hok.run.looks
    rw [hdv, hlv]
    have HDV := hid_r (And.intro hdv hlv)
    clear hok hs hkl hckO hckB HK0 hdv hlv
    by_cases hlt : k < l.length
    · have hlt' : (k : Int) < (l.length : Int) := by omega
      obtain ⟨rfl, hbw, e0, e1, e2⟩ := HE.out wr HOK.out.old k hlt
      have HFR := hid_r (HKK.out.free HCA.out hlt)
      obtain ⟨⟨t, a, i⟩, ho⟩ : ∃ o : Op3, opAt l k = o := ⟨_, rfl⟩
      have hiso : isOpB (t, a, i) = true := by rw [← ho]; exact HOP.out _ (opAt_mem hlt)
      have HNX : Hid (runK kind okF l (k + 1) = stepK kind okF s (k : Int) (t, a, i)) := by show stepK kind okF (runK kind okF l k) _ _ = _; rw [HSE.out, ho]
      rw [ho] at e0 e1 e2 HFR
      simp only at e0 e1 e2
      obtain ⟨h1, h6⟩ := isOp_range hiso
      simp only at h1 h6
      have hwhat : a = 1 ∨ a = 2 ∨ a = 3 ∨ a = 4 := by simp [isOpB] at hiso; omega
      obtain ⟨dt, rfl⟩ : ∃ d : Nat, t = d := ⟨t.toNat, by omega⟩
      have hd1 : 1 ≤ dt := by omega
      have hd6 : dt ≤ 6 := by omega
      have hbR : b < wr.heap.size := Nat.lt_of_lt_of_le hbw HOK.out.old.size
      have hdn6 : s.done.length ≤ 6 := six_len HKK.out.once fun x hx => ⟨(HKK.out.comm x hx).2.1, (HKK.out.comm x hx).2.2.1⟩
      clear ho hiso
      go_upto_block 1 with (fail)
      refine round_blk HSW.out HOK.out HCO.out.1 HCO.out.2 HDV.out.1 HDV.out.2 hbR hlt e0 e1 e2 hd1 hd6 hwhat HFR.out (fun x hx => ⟨(HKK.out.comm x hx).2.1, (HKK.out.comm x hx).2.2.1⟩) HKL.out hdn6 HKK.out.once HLKS.out ?_
      intro u10 u11 u12 u13 u14 u15 u16 u17 u18 u19 u20 u21 u28 u29 u30 u31 u32 u33 u34 u35 u36 u37 u38 u39 u40 u41 u42 u43 u44 u45 u46 u47 u48 u49 u50 u51 u52 u53 u54 u55 u56 u57 u58 u59 u60 u61 u62 u63 u64 u65 u66 u67 u68 u69 u70 u71 u72 u73 u74 u75 u76 u77 u78 u79 u80 u81 u82 u83 u84 u85 u86 u87 u88 u89 u90 u91 u92 u93 u94 u95 u96 u97 u98 u99 u100 u101 u102 u103 u104 u105 u106 u107 u108 u109 u110 u111 u112 u113 u114 u115 u116 u117 u118 u119 u120 u121 u122 u123 u124 u125 u126 u127 u128 u129 u130 u131 u132 u133 u134 u135 u136 u137 u138 u139 u140 u141 u142 u143 u144 u145 u146 u147 u148 u149 u150 u151 u152 u153 u154 u155 u156 u157 u158 u159 u160 u161 u162 u163 u164 u165 u166 u167 u168 u169 u170 u171 u172 u173 u174 u175 u176 u177 u178 u179 u180 u181 u182 u183 u184 u185 u186 u187 u188 u189 u190 u191 u192 u193 u194 u195 u196 u197 u198 u199 u200 u201 u202 u203 u204 u205 u206 u207 u208 u209 u210 u211 u212 u213 u214 u215 u216 u217 u218 u219 u220 u221 u222 u223 u224 u225 u226 u227 u228 u229 u230 u231 u232 X cz da la dn dc ln lc hz hzO hzB hzd hzl
      have HZ := hid_r hz
      have HZ2 := hid_r (And.intro hzO (And.intro hzB (And.intro hzd hzl)))
      clear hz hzO hzB hzd hzl e0 e1 e2
      go_wp2_with fail
      go_roundw
      case rel => exact ⟨k + 1, cz, by omega, by go_num, by rw [HNX.out]; exact HZ.out, HZ2.out.2.2.1.symm, HZ2.out.2.2.2.symm, HZ2.out.1, HZ2.out.2.1⟩
      case measure => simp [intOf]; omega
    · have hlt' : ¬ (k : Int) < (l.length : Int) := by omega
      obtain rfl : k = l.length := by omega
      have HEN : Hid (IsDeals wr ck.dv s.done s.of) := HOK.out.run.deals (fun t ht => ⟨(HKK.out.comm t ht).2.1, (HKK.out.comm t ht).2.2.1⟩) fun t => by have := HKL.out t; omega
      rw [HDV.out.1] at HEN
      go_wp2_with fail
      go_ret
      rw [HSE.out]
      exact ⟨_, rfl, HEN.out, HOK.out.old⟩
theorem refRun1 : RefC 1 okV := refRun_any (swC2 (.inl rfl) fun _ _ _ => rfl)
theorem refRun2 : RefC 2 okS := refRun_any (swC2 (.inr rfl) fun _ _ _ => rfl)
end Go.Proofs.YtccjognnehoodafDoor
