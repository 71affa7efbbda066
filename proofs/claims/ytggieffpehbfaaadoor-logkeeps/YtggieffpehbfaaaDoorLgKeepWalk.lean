/-
  PROVED HERE: lanelaw3.LogKeeps returns true, whatever the ops and the numbers, if package log answers as it is asked; old memory stays as it was.
  Conditions: package log's contract (LogW) and play.Values' (ValuesOk); the variable errors.errorType lies as it should (EtAt); the lists are not longer than memory can hold.
-/
import Derived.Test.YtggieffpehbfaaaDoorLgKeepRound
import Derived.Test.YtggieffpehbfaaaDoorLgRefWalk
import Derived.Deep.Cut
namespace Go.Proofs.YtggieffpehbfaaaDoor
open Go.RowKit

set_option maxHeartbeats 64000000 in
set_option maxRecDepth 100000 in
theorem lgkeep_any {Rep : World → Nat → Lg → (Nat → Prop) → Prop} (hR : LogW Rep) (hV : ValuesOk) (l : List Op3) (sy fa ke : List Int) (lad sad fad kad : Option Addr) (lcap scap fcap kcap : Nat) (w : World) (hI : IsOps w (.slice lad l.length lcap) l) (hS : IsInts w (.slice sad sy.length scap) sy) (hF : IsInts w (.slice fad fa.length fcap) fa) (hK : IsInts w (.slice kad ke.length kcap) ke) (hl : l.length ≤ 5864062014805) (hg : EtAt w) :
    Calls Tryd.prog 5 #[.slice lad l.length lcap, .slice sad sy.length scap, .slice fad fa.length fcap, .slice kad ke.length kcap] w fun e w' => e = .returned (.bool true) ∧ Below w.heap.size w w' := by
  have HN2 : Hid (∀ W, Below w.heap.size w W → Calls Tryd.prog 6 #[] W fun e w' => ∃ p F, e = .returned (ptL p) ∧ LgF Rep w w' p lg0 F) := fun W hW => lgF_new2 hR hW
  have HDO : Hid (∀ W p s F o, LgF Rep w W p s F → Calls Tryd.prog 10 #[ptL p, opL o] W fun e w' => ∃ r s' F', DoR s o r s' ∧ e = .returned (errV r) ∧ LgF Rep w w' p s' F' ∧ CarryA w W F w' F') := fun W p s F o h => lgF_do hR h o
  have HSY : Hid (∀ W p s F, LgF Rep w W p s F → Calls Tryd.prog 12 #[ptL p] W fun e w' => ∃ F', e = .returned (errV (syncE s)) ∧ LgF Rep w w' p (syncS s) F' ∧ CarryA w W F w' F') := fun W p s F h => lgF_sync hR h
  have HFA : Hid (∀ W p s F n, LgF Rep w W p s F → Calls Tryd.prog 9 #[ptL p, .int .i64 n] W fun e w' => ∃ F', e = .returned (.tuple #[]) ∧ LgF Rep w w' p (failS s n) F' ∧ CarryA w W F w' F') := fun W p s F n h => lgF_fail hR h n
  have HCR : Hid (∀ W p s F n, LgF Rep w W p s F → Calls Tryd.prog 13 #[ptL p, .int .i64 n] W fun e w' => ∃ F', e = .returned (.tuple #[]) ∧ LgF Rep w w' p (crashS s n) F' ∧ CarryA w W F w' F') := fun W p s F n h => lgF_crash hR h n
  have HAL : Hid (∀ W p s F, LgF Rep w W p s F → Calls Tryd.prog 14 #[ptL p] W fun e w' => ∃ v', e = .returned v' ∧ IsOps w' v' s.hist ∧ Below W.heap.size W w') := fun W p s F h => lgF_all hR h
  have HVA : Hid (∀ W p s F, LgF Rep w W p s F → Calls Tryd.prog 8 #[ptL p] W fun e w' => ∃ v', e = .returned v' ∧ IsInts w' v' (valsL (doneL s.hist)) ∧ Below W.heap.size W w') := fun W p s F h => lgF_values hR h
  have HBY : Hid (∀ W p s F, LgF Rep w W p s F → Calls Tryd.prog 7 #[ptL p] W fun e w' => e = .returned (.int .i64 s.bytes) ∧ Below W.heap.size W w') := fun W p s F h => lgF_bytes hR h
  have HSA : Hid (∀ W p s F, LgF Rep w W p s F → Calls Tryd.prog 15 #[ptL p] W fun e w' => e = .returned (.int .i64 s.safe) ∧ Below W.heap.size W w') := fun W p s F h => lgF_safe hR h
  have HLB : Hid (∀ W W1 p s F, LgF Rep w W p s F → Below W.heap.size W W1 → LgF Rep w W1 p s F) := fun W W1 p s F h hb => h.below hR hb
  have HKB : Hid (∀ W W1 p s F dv mv, KpF Rep w W p s F dv mv → Below W.heap.size W W1 → KpF Rep w W1 p s F dv mv) := fun W W1 p s F dv mv h hb => h.below hR hb
  have HER : Hid (∀ W n m, Below w.heap.size w W → Calls Tryd.prog 11 #[.iface 48 (.int .i64 n), .int .i64 m] W fun r w' => r = .returned (.bool (n == m)) ∧ Below W.heap.size W w') := fun W n m hW => (error_hit n m W (hg.below hW hg.lt)).mono fun _ _ ⟨h1, h2⟩ => ⟨by rw [h1], h2⟩
  have HRG := hid_k hR
  have HVV := hid_k hV
  have HARG : Hid (∀ W, Below w.heap.size w W → IsOps W (.slice lad l.length lcap) l ∧ IsInts W (.slice sad sy.length scap) sy ∧ IsInts W (.slice fad fa.length fcap) fa ∧ IsInts W (.slice kad ke.length kcap) ke) := fun W hW => ⟨hI.below hW (Nat.le_refl _), hS.below hW (Nat.le_refl _), hF.below hW (Nat.le_refl _), hK.below hW (Nat.le_refl _)⟩
  have HE0 : Hid (errV 0 = .nilIface) := if_pos rfl
  have HPA := hid_k (And.intro hR (And.intro hI (And.intro hS (And.intro hF (And.intro hK (And.intro hl hg))))))
  clear hR hV hI hS hF hK hg
  unfold ptL opL at HDO
  unfold ptL at HN2 HSY HFA HCR HAL HVA HBY HSA
  go_enter Tryd.func5, Tryd.ntmps5
  go_wp2_with fail
  refine (HN2.out w (Below.refl _ _)).mono ?_
  rintro e w1 ⟨p1, F1, rfl, h1⟩
  have HC1 := hid_k (HDO.out w1 p1 lg0 F1 (1, 2, 1) h1)
  clear h1
  go_wp2_with fail
  refine HC1.out.mono ?_
  rintro e w2 ⟨r, s2, F2, hd, rfl, h2, -⟩
  obtain ⟨rfl, n1, hn1, hn2, rfl⟩ := do_does hd rfl fact_chk.1 (by intro h; cases h)
  rw [HE0.out]
  have HC2 := hid_k (HSY.out w2 p1 _ F2 h2)
  clear hd h2 HC1
  have hsE : syncE ⟨lg0.hist ++ [(1, 2, 1)], lg0.ends ++ [lg0.bytes + n1], lg0.bytes + n1, lg0.safe, lessO lg0.left, false⟩ = 0 := rfl
  have hsS : syncS ⟨lg0.hist ++ [(1, 2, 1)], lg0.ends ++ [lg0.bytes + n1], lg0.bytes + n1, lg0.safe, lessO lg0.left, false⟩ = ⟨[(1, 2, 1)], [0 + n1], 0 + n1, 0 + n1, none, false⟩ := rfl
  rw [hsE, hsS, HE0.out, Nat.zero_add] at HC2
  clear hsE hsS
  go_wp2_with fail
  refine HC2.out.mono ?_
  rintro e w3 ⟨F3, rfl, h3, -⟩
  have HC3 := hid_k (HDO.out w3 p1 _ F3 (1, 3, 0) h3)
  clear h3 HC2
  go_wp2_with fail
  refine HC3.out.mono ?_
  rintro e w4 ⟨r, s4, F4, hd, rfl, h4, -⟩
  obtain ⟨rfl, n2, hn3, hn4, rfl⟩ := do_does hd rfl fact_chk.2 (by intro h; cases h)
  rw [HE0.out]
  have HC4 := hid_k (HCR.out w4 p1 _ F4 0 h4)
  have hcr : crashS ⟨[(1, 2, 1)] ++ [(1, 3, 0)], [n1] ++ [n1 + n2], n1 + n2, n1, lessO none, false⟩ 0 = ⟨[(1, 2, 1)], [n1], n1, n1, none, false⟩ := keep_fact hn3
  have HC5 : Hid (Calls Tryd.prog 13 #[.pointer (some ⟨p1, 0, none⟩), .int .i64 0] w4 fun e w' => ∃ F', e = .returned (.tuple #[]) ∧ LgF Rep w w' p1 ⟨[(1, 2, 1)], [n1], n1, n1, none, false⟩ F') := HC4.out.mono fun e w' ⟨F', h1, h2, _⟩ => ⟨F', h1, by rw [← hcr]; exact h2⟩
  clear hd h4 HC3 HC4 hcr
  go_wp2_with fail
  refine HC5.out.mono ?_
  rintro e w5 ⟨F5, rfl, h5⟩
  have HL5 := hid_k h5
  have HC6 := hid_k (HAL.out w5 p1 _ F5 h5)
  clear h5 HC5
  go_wp2_with fail
  refine HC6.out.mono ?_
  rintro e w6 ⟨av, rfl, ha6, hb6⟩
  obtain ⟨aad, _, _, acap, rfl, -⟩ := ha6
  have HL6 := hid_k (HLB.out w5 w6 p1 _ F5 HL5.out hb6)
  have HC7 := hid_k (HVA.out w6 p1 _ F5 HL6.out)
  rw [fact_vals] at HC7
  clear hb6 HC6
  go_wp2_with fail
  refine HC7.out.mono ?_
  rintro e w7 ⟨vv, rfl, hv7, hb7⟩
  obtain ⟨vad, vb, voff, vcap, rfl, va, -, -, vc⟩ := hv7
  obtain rfl := va (by decide)
  have c70 : w7.cell? ⟨vb, voff, none⟩ = some (.int .i64 0) := by simpa using vc 0 (by decide)
  have HL7 := hid_k (HLB.out w6 w7 p1 _ F5 HL6.out hb7)
  have HCB := hid_k (HBY.out w7 p1 _ F5 HL7.out)
  clear hb7 HC7 va vc
  go_wp2_with fail
  refine HCB.out.mono ?_
  rintro e w8 ⟨rfl, hb8⟩
  have HL8 := hid_k (HLB.out w7 w8 p1 _ F5 HL7.out hb8)
  have HCS := hid_k (HSA.out w8 p1 _ F5 HL8.out)
  clear hb8 HCB c70
  go_wp2_with fail
  refine HCS.out.mono ?_
  rintro e w9 ⟨rfl, hb9⟩
  have HB9 := hid_k (HL8.out.old.trans (hb9.mono HL8.out.old.size))
  clear hb9 HCS HL5 HL6 HL7 HL8
  go_wp2_with fail
  refine (HN2.out w9 HB9.out).mono ?_
  rintro e w10 ⟨p, F, rfl, h10⟩
  go_upto_region 13 with (fail)
  obtain ⟨WA, hWA⟩ : ∃ W, W = w10.alloc (.cells #[.int .i64 0] 3) := ⟨_, rfl⟩
  rw [← hWA]
  have HKP : Hid (KpF Rep w WA p lg0 F (.slice none 0 0) (.slice (some ⟨w10.heap.size, 0, none⟩) 1 1)) := by
    have hb : Below w10.heap.size w10 WA := by rw [hWA]; exact (Below.refl _ w10).alloc (Nat.le_refl _) _
    have ho : WA.ownsRow w10.heap.size 3 1 (.slice (some ⟨w10.heap.size, 0, none⟩) 1 1) 1 [.int .i64 0] := ⟨rfl, .inr ⟨w10.heap.size, 1, #[.int .i64 0], rfl, Nat.le_refl _, by rw [hWA]; exact heap_alloc_new _ _, Nat.le_refl _, by unfold maxLen; omega, rfl, rfl⟩⟩
    exact ⟨HLB.out _ _ _ _ _ h10 hb, ⟨World.ownsRow_nil _ _ _ _, fun g hg => by simp [Value.ownBlock] at hg⟩, h10.fresh HRG.out ho h10.old.size⟩
  obtain ⟨M, hM⟩ : ∃ M, M = w10.heap.size := ⟨_, rfl⟩
  rw [← hM] at HKP ⊢
  clear hWA hM h10
  go_wp2_with fail
  go_loopw [16, 17, 18, 19, 20, 21, 22, 23, 24, 25, 26, 27, 28, 29, 30, 31, 32, 33, 34] (fun v16 v17 v18 v19 _ _ _ _ _ _ _ _ _ _ _ _ _ _ _ V => ∃ (s : Lg) (F : Nat → Prop) (rd at' : Nat), rd ≤ 4 ∧ v19 = .int .i64 rd ∧ at' ≤ l.length ∧ v18 = .int .i64 at' ∧ KpF Rep w V p s F v16 v17) (fun _ _ _ v19 _ _ _ _ _ _ _ _ _ _ _ _ _ _ _ _ => 5 - (intOf v19).toNat)
  case atStart => exact ⟨lg0, F, 0, 0, by omega, rfl, Nat.zero_le _, rfl, HKP.out⟩
  case round =>
    clear HKP
    obtain ⟨s, F, rd, at', hrd, rfl, hat, rfl, hkp⟩ := hrel
    have HKP := hid_k hkp
    clear hkp
    by_cases hex : fa.length < rd
    · have hex' : ¬ (rd : Int) ≤ (fa.length : Int) := by omega
      go_wp2_with fail
      go_ret
      exact ⟨rfl, HKP.out.lg.old⟩
    have hex' : (rd : Int) ≤ (fa.length : Int) := by omega
    by_cases h4 : rd = 4
    · subst h4
      go_wp2_with fail
      go_ret
      exact ⟨rfl, HKP.out.lg.old⟩
    have h4' : (rd : Int) < 4 := by omega
    go_upto_block 1 with (fail)
    obtain ⟨q1, q2, q3, q4, q5, q6, q7⟩ := HPA.out
    refine kround_blk q1 l sy fa ke lad sad fad kad lcap scap fcap kcap w q2 q3 q4 q5 q6 q7 HVV.out p s F _ _ rd at' (by omega) hat _ HKP.out ?_
    clear q1 q2 q3 q4 q5 q6 q7
    intro x8 x16 x17 x18 x20 x21 x22 x23 x24 x25 x26 x27 x28 x29 x30 x31 x32 x33 x34 x95 x96 x97 x98 x99 x100 x101 x102 x103 x104 x105 x106 x107 x108 x109 x110 x111 x112 x113 x114 x115 x116 x117 x118 x119 x120 x121 x122 x123 x124 x125 x126 x127 x128 x129 x130 x131 x132 x133 x134 x135 x136 x137 x138 x139 x140 x141 x142 x143 x144 x145 x146 x147 x148 x149 x150 x151 x152 x153 x154 x155 x156 x157 x158 x159 x160 x161 x162 x163 x164 x165 x166 x167 x168 x169 x170 x171 x172 x173 x174 x175 x176 x177 x178 x179 x180 x181 x182 x183 x184 x185 x186 x187 x188 x189 x190 x191 x192 x193 x194 x195 x196 x197 x198 x199 x200 x201 x202 x203 x204 x205 x206 x207 x208 x209 x210 x211 x212 x213 x214 x215 x216 x217 x218 x219 x220 x221 x222 x223 x224 x225 x226 x227 x228 x229 x230 x231 x232 x233 x234 x235 x236 x237 x238 x239 x240 x241 x242 x243 x244 x245 x246 x247 x248 x249 x250 x251 x252 x253 x254 x255 x256 x257 x258 x259 x260 x261 x262 x263 x264 x265 x266 x267 x268 x269 x270 x271 x272 x273 x274 x275 x276 x277 x278 V' hex
    obtain ⟨s', F', a, ha, e18, hk'⟩ := hex
    have HK' := hid_k hk'
    subst e18
    clear hk' HKP
    go_wp2_with fail
    go_roundw
    case rel => exact ⟨s', F', rd + 1, a, by omega, by go_num, ha, rfl, HK'.out⟩
    case measure => simp [intOf]; omega
end Go.Proofs.YtggieffpehbfaaaDoor
