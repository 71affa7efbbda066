/-
  PROVED HERE: lanelaw2.by answers yes or no, of any order: it comes back, and old memory stays as it was.
  Conditions: the lists are short; of each deal of the order the outcome tells a Read for each of its own.
  PROVED HERE: append on a row of one's own, and where the row lies then: where it lay, or in a new block.
  Conditions: as the library's law of append has them.
-/
import Derived.Test.YtccjognnehoodagMgat
import Derived.Test.YtccjognnehoodagMgav
import Derived.WalkKit
import Derived.WalkSpells
import Derived.Handy
import Derived.Deep.RegionLaw
import Derived.Laws.AppendOwn
import Derived.ArgAppend
namespace Go.Proofs.Ytccjognnehoodag
open Go.RowKit

/-- The items that are read, in order. -/
def rdL (own : List Op3) : List Int := (own.filter fun o => o.2.1 == 1).map fun o => o.2.2
theorem rdL_snoc (own : List Op3) (o : Op3) : rdL (own ++ [o]) = rdL own ++ (if o.2.1 = 1 then [o.2.2] else []) := by
  unfold rdL
  rw [List.filter_append, List.map_append]
  by_cases h : o.2.1 = 1
  · rw [if_pos h]; simp [h]
  · rw [if_neg h]; simp [h]
theorem rdL_prefix (own : List Op3) (j : Nat) : ∃ r, rdL own = rdL (own.take j) ++ r := by
  refine ⟨rdL (own.drop j), ?_⟩
  unfold rdL
  rw [← List.map_append, ← List.filter_append, List.take_append_drop]
/-- Yes or no. -/
def YesNo (e : Ending) : Prop := ∃ b, e = .returned (.bool b)
set_option maxHeartbeats 16000000 in
set_option maxRecDepth 100000 in
theorem by_bool (l : List Op3) (v a1 a2 a3 vo : Value) (se : List Op3) (la ord : List Int) (w : World) (hI : IsOps w v l) (hs1 : ∃ ad n c, a1 = .slice ad n c) (h2 : IsOps w a2 se) (h3 : IsInts w a3 la) (ho : IsInts w vo ord)
    (hop : ∀ o ∈ l, isOpB o = true) (hlen : l.length ≤ 40) (hsl : se.length ≤ 240) (hol : ord.length ≤ 6) (hl6 : la.length = 6) (hit : ∀ t ∈ ord, (se.filter (fun o : Op3 => o.1 == t)).map (fun o => o.2.1) = rdL (ofL l t)) :
    Calls Try.prog 25 #[v, .agg #[a1, a2, a3], vo] w fun e w' => YesNo e ∧ Below w.heap.size w w' := by
  have HOF : Hid (∀ W, Below w.heap.size w W → ∀ t, Calls Try.prog 8 #[v, .int .i64 t] W fun e w' => ∃ v', e = .returned v' ∧ w'.ownsRow W.heap.size 24 3 v' (ofL l t).length (flat (ofL l t)) ∧ Below W.heap.size W w') := fun W hW t => refOf_own l v t W (hI.below hW (Nat.le_refl _)) (by omega)
  obtain ⟨x1, y1, z1, rfl⟩ := hs1
  obtain ⟨x3, b3, o3, z3, hv3, ha3, hn3, hbB3, hc3⟩ := h3
  have H3 : Hid (IsInts w a3 la) := ⟨x3, b3, o3, z3, hv3, ha3, hn3, hbB3, hc3⟩
  subst hv3
  have HSE : Hid (∀ W, Below w.heap.size w W → ∀ t, Calls Try.prog 43 #[.agg #[.slice x1 y1 z1, a2, .slice x3 la.length z3], .int .i64 t] W fun e w' => ∃ v', e = .returned v' ∧ w'.ownsRow W.heap.size 60 3 v' (se.filter (fun o : Op3 => o.1 == t)).length (flat (se.filter (fun o : Op3 => o.1 == t))) ∧ Below W.heap.size W w') := fun W hW t => seen_own se _ a2 _ t W (h2.below hW (Nat.le_refl _)) (by omega) ⟨_, _, _, rfl⟩ ⟨_, _, _, rfl⟩
  obtain ⟨x2, y2, z2, rfl⟩ : ∃ ad n c, a2 = .slice ad n c := by obtain ⟨ad, _, _, cap, hv, _⟩ := h2; exact ⟨ad, _, cap, hv⟩
  obtain ⟨ad0, b0, off0, cap0, hv0, -⟩ := hI
  subst hv0
  obtain ⟨ad, b, off, cap, rfl, ha, -, hbB, hc⟩ := ho
  have HCE : Hid (∀ W, Below w.heap.size w W → ∀ k, k < ord.length → ad = some ⟨b, off, none⟩ ∧ W.cell? ⟨b, off + k, none⟩ = some (.int .i64 (ord.getD k 0))) := fun W hW k hk => by
    have hb1 : b < w.heap.size := by
      rcases hbB with h | h
      · exact h
      · subst h; simp at hk
    exact ⟨ha (by omega), (hW.cell (p := ⟨b, off + k, none⟩) hb1).trans (hc k hk)⟩
  have HOP : Hid (∀ t, ∀ o ∈ ofL l t, isOpB o = true ∧ o.1 = t) := fun t o ho => by
    have h5 := List.mem_filter.1 ho
    exact ⟨hop o h5.1, by simpa using h5.2⟩
  have HOL : Hid (∀ t, (ofL l t).length ≤ 40) := fun t => Nat.le_trans (List.length_filter_le _ _) hlen
  have HFL : Hid (∀ t, (se.filter (fun o : Op3 => o.1 == t)).length ≤ 240) := fun t => Nat.le_trans (List.length_filter_le _ _) hsl
  obtain ⟨j0, hj, hjz0, hjs0, hjy0⟩ := info_parts infoInt
  have HJ : Hid (Try.prog.info? 3 = some j0 ∧ j0.zero = some (.int .i64 0) ∧ j0.size = 1 ∧ j0.bytes = 8) := ⟨hj, hjz0, hjs0, hjy0⟩
  have HL6 : Hid (la.length = 6) := hl6
  have HIT := hid_s hit
  clear hl6 hit hop hc hbB ha h2 hj hjz0 hjs0 hjy0 ha3 hn3 hbB3 hc3
  go_enter Try.func25, Try.ntmps25
  go_upto_region 2 with (at_make; refine wpList_make_full _ rfl (.const (.int .i64 6)) (.const (.int .i64 6)) 25 rfl (w.heap.size + 1) 3 j0 (.int .i64 0) 1 Try.underlying25 HJ.out.1 HJ.out.2.1 HJ.out.2.2.1 .i64 .i64 6 6 6 rfl rfl rfl rfl (by rw [HJ.out.2.2.2]; omega) (by unfold maxLen; omega) (by simp) ?_; intro w1 hown1 hgr1)
  rw [show (w.alloc (.cells #[.slice x1 y1 z1, .slice x2 y2 z2, .slice x3 la.length z3] 28)).heap.size = w.heap.size + 1 by simp] at hown1
  have HST := hid_s (by_start hown1 hgr1)
  obtain ⟨P, hP⟩ : ∃ P, P = w.heap.size := ⟨_, rfl⟩
  obtain ⟨L, hL⟩ : ∃ L, L = w.heap.size + 1 := ⟨_, rfl⟩
  rw [← hL, ← hP] at HST ⊢
  clear hown1 hgr1 hL hP
  have HS0 : Hid (BySt w w1 P L (.slice x1 y1 z1) (.slice x2 y2 z2) (.slice x3 la.length z3) (lastG l [])) := HST.out
  clear HST
  go_wp2_with fail
  go_loopw [8, 9, 10, 11, 12, 13] (fun v8 _ _ _ _ _ wr => ∃ k : Nat, k ≤ ord.length ∧ v8 = .int .i64 k ∧ ∃ f, BySt w wr P L (.slice x1 y1 z1) (.slice x2 y2 z2) (.slice x3 la.length z3) f) (fun v8 _ _ _ _ _ _ => ord.length - (intOf v8).toNat)
  case atStart => exact ⟨0, Nat.zero_le _, rfl, _, HS0.out⟩
  case round =>
    obtain ⟨k, hk, rfl, f0', hst⟩ := hrel
    have HSK := hid_s hst
    clear hst HS0
    by_cases hlt : k < ord.length
    · have hlt' : (k : Int) < (ord.length : Int) := by omega
      have hk0 : (0 : Int) ≤ (k : Int) := by omega
      have hkn : ¬ (k : Int) < 0 := by omega
      obtain ⟨rfl, ck⟩ := HCE.out wr HSK.out.old k hlt
      obtain ⟨t, ht⟩ : ∃ t, ord.getD k 0 = t := ⟨_, rfl⟩
      rw [ht] at ck
      have hrd := HIT.out t (by rw [← ht]; simp [List.getD, List.getElem?_eq_getElem hlt])
      obtain ⟨own, hown⟩ : ∃ o, ofL l t = o := ⟨_, rfl⟩
      have HOFt : Hid (Calls Try.prog 8 #[.slice ad0 l.length cap0, .int .i64 t] wr fun e w' => ∃ v', e = .returned v' ∧ w'.ownsRow wr.heap.size 24 3 v' own.length (flat own) ∧ Below wr.heap.size wr w') := by have := HOF.out wr HSK.out.old t; rw [hown] at this; exact this
      have HOWL : Hid ((∀ o ∈ own, isOpB o = true ∧ o.1 = t) ∧ own.length ≤ 40 ∧ wrL own = wrL (ofL l t)) := by rw [← hown]; exact ⟨HOP.out t, HOL.out t, rfl⟩
      obtain ⟨sl, hsl'⟩ : ∃ s, se.filter (fun o : Op3 => o.1 == t) = s := ⟨_, rfl⟩
      rw [hsl', hown] at hrd
      have HRD := hid_s hrd
      have HSEt : Hid (∀ W, Below w.heap.size w W → Calls Try.prog 43 #[.agg #[.slice x1 y1 z1, .slice x2 y2 z2, .slice x3 la.length z3], .int .i64 t] W fun e w' => ∃ v', e = .returned v' ∧ w'.ownsRow W.heap.size 60 3 v' sl.length (flat sl) ∧ Below W.heap.size W w') := fun W hW => by have := HSE.out W hW t; rw [hsl'] at this; exact this
      have hsl240 : sl.length ≤ 240 := by rw [← hsl']; exact HFL.out t
      clear ht hown hsl' hrd
      go_wp2_with fail
      refine HOFt.out.mono ?_
      rintro e w2 ⟨v2, rfl, hio, hb2⟩
      have HS2 := hid_s (HSK.out.later hb2)
      have HLT := hid_s HSK.out.ltL
      have HIO := hid_s hio
      obtain ⟨p2, r2, s2, hv2⟩ : ∃ ad n c, v2 = .slice ad n c := by obtain ⟨ad, c, h, -⟩ := own_slice3 hio; exact ⟨ad, _, c, h⟩
      subst hv2
      obtain ⟨q0, q1, q2⟩ := HS2.out.box.cells
      have HBb2 := hid_s hb2
      clear hb2 hio HOFt ck
      go_wp2_with fail
      refine (HSEt.out w2 HS2.out.old).mono ?_
      rintro e w3 ⟨v3, rfl, his, hb3⟩
      have HS3 := hid_s (HS2.out.later hb3)
      have hio3 : w3.ownsRow wr.heap.size 24 3 (.slice p2 r2 s2) own.length (flat own) := (Turns.of_below (F := fun _ => False) hb3).own HIO.out fun _ _ hf => hf
      obtain ⟨ado, capo, bo, ho1, ho2, ho3⟩ := row_keep hio3 HLT.out
      obtain ⟨ads, caps, bs, hs1, hs2, hs3⟩ := row_keep his (Nat.lt_of_lt_of_le HLT.out HBb2.out.size)
      rw [ho1]
      subst hs1
      obtain ⟨no, hno⟩ : ∃ n, own.length = n := ⟨_, rfl⟩
      have hno40 : no ≤ 40 := by rw [← hno]; exact HOWL.out.2.1
      obtain ⟨ns, hns⟩ : ∃ n, sl.length = n := ⟨_, rfl⟩
      have hns240 : ns ≤ 240 := by rw [← hns]; exact hsl240
      have HOO : Hid (∀ W, Turns (fun j => j = L) w3 W → ∀ j, j < no → ado = some ⟨bo, 0, none⟩ ∧ W.cell? ⟨bo, j * 3, none⟩ = some (.int .i64 (opAt own j).1) ∧ W.cell? ⟨bo, j * 3 + 1, none⟩ = some (.int .i64 (opAt own j).2.1) ∧ W.cell? ⟨bo, j * 3 + 2, none⟩ = some (.int .i64 (opAt own j).2.2)) := fun W hW j hj => ⟨ho2 (by omega), ho3 W hW j (by omega)⟩
      have HSS : Hid (∀ W, Turns (fun j => j = L) w3 W → ∀ j, j < ns → ads = some ⟨bs, 0, none⟩ ∧ W.cell? ⟨bs, j * 3, none⟩ = some (.int .i64 (opAt sl j).1) ∧ W.cell? ⟨bs, j * 3 + 1, none⟩ = some (.int .i64 (opAt sl j).2.1) ∧ W.cell? ⟨bs, j * 3 + 2, none⟩ = some (.int .i64 (opAt sl j).2.2)) := fun W hW j hj => ⟨hs2 (by omega), hs3 W hW j (by omega)⟩
      have HSO := hid_s (And.intro hno hns)
      rw [hno, hns]
      clear ho1 ho2 ho3 hs2 hs3 hio3 his hb3 HIO HSEt hno hns hsl240
      go_wp2_with fail
      go_loopw [12, 13] (fun v12 v13 wr => ∃ j kk : Nat, j ≤ no ∧ (rdL (own.take j)).length = kk ∧ v13 = .int .i64 j ∧ v12 = .int .i64 (kk : Nat) ∧ (∃ f, BySt w wr P L (.slice x1 y1 z1) (.slice x2 y2 z2) (.slice x3 la.length z3) f) ∧ Turns (fun j => j = L) w3 wr) (fun _ v13 _ => no - (intOf v13).toNat)
      case atStart => exact ⟨0, 0, Nat.zero_le _, rfl, rfl, rfl, ⟨_, HS3.out⟩, Turns.refl _ _⟩
      case round =>
        obtain ⟨j, kk, hj, hkk, rfl, rfl, ⟨fl, hbs⟩, htu⟩ := hrel
        have HKK := hid_s hkk
        clear hkk
        have HBS := hid_s hbs
        have HTU := hid_s htu
        clear hbs htu HS3 HS2
        by_cases hlt2 : j < no
        · have hlt2' : (j : Int) < (no : Int) := by omega
          have hj0 : (0 : Int) ≤ (j : Int) := by omega
          have hjn : ¬ (j : Int) < 0 := by omega
          obtain ⟨rfl, e0, e1, e2⟩ := HOO.out wr HTU.out j hlt2
          have hjo : j < own.length := by rw [HSO.out.1]; exact hlt2
          obtain ⟨⟨t', a, x⟩, ho⟩ : ∃ o : Op3, opAt own j = o := ⟨_, rfl⟩
          have hmo : (t', a, x) ∈ own := by rw [← ho]; exact opAt_mem hjo
          obtain ⟨hio, rfl⟩ := HOWL.out.1 _ hmo
          rw [ho] at e0 e1 e2
          simp only at e0 e1 e2
          have hkd := isOp_kinds hio
          simp only at hkd
          have HTJ : Hid (rdL (own.take (j + 1)) = rdL (own.take j) ++ (if a = 1 then [x] else [])) := by
            show _ = _
            rw [List.take_succ_eq_append_getElem hjo, show own[j] = (t', a, x) by rw [← ho]; simp [opAt, List.getD, List.getElem?_eq_getElem hjo], rdL_snoc]
          have HOA := hid_s ho
          clear ho hmo
          rcases hkd with rfl | rfl | ⟨h34, hx0⟩
          · have hx1 := isOp_pos hio (.inl rfl)
            have hx6 : x ≤ 6 := by simp [isOpB, endsB] at hio; omega
            simp only at hx1
            obtain ⟨m, hxm⟩ : ∃ m : Nat, x = (m : Int) + 1 := ⟨(x - 1).toNat, by omega⟩
            have hm0 : (0 : Int) ≤ (m : Int) := by omega
            have hmn : ¬ (m : Int) < 0 := by omega
            have hm6 : (m : Int) < 6 := by omega
            have hsb : x - 1 = (m : Int) := by omega
            have hwp : IntKind.i64.wrap (m : Int) = (m : Int) := by rw [IntKind.wrap_i64]; omega
            have hk2 : (0 : Int) ≤ (kk : Int) := by omega
            have hk3 : ¬ (kk : Int) < 0 := by omega
            obtain ⟨l0, -⟩ := HBS.out.nums m (by omega)
            obtain ⟨lf, hlf⟩ : ∃ x, fl m = x := ⟨_, rfl⟩
            rw [hlf] at l0
            have HB4 : Hid (∀ nq, BySt w (wr.drewN nq) P L (.slice x1 y1 z1) (.slice x2 y2 z2) (.slice x3 la.length z3) fl) := fun nq => HBS.out.later (below_drewN (Below.refl _ _) _)
            have HT4 : Hid (∀ nq, Turns (fun j => j = L) w3 (wr.drewN nq)) := fun nq => HTU.out.then_below (below_drewN (Below.refl _ _) _)
            clear hio hlf hx1 hx6 hxm
            obtain ⟨r', hr'⟩ := rdL_prefix own (j + 1)
            rw [HTJ.out, if_pos rfl, ← HRD.out] at hr'
            have hks : kk < ns := by
              have h5 := congrArg List.length hr'
              rw [List.length_map, HSO.out.2, List.length_append, List.length_append, HKK.out] at h5
              simp at h5
              omega
            have hat : (opAt sl kk).2.1 = x := by
              have h5 : (sl.map fun o : Op3 => o.2.1)[kk]? = some x := by rw [hr', ← HKK.out]; simp
              rw [List.getElem?_map] at h5
              have h6 : kk < sl.length := by rw [HSO.out.2]; exact hks
              rw [List.getElem?_eq_getElem h6] at h5
              simpa [opAt, List.getD, List.getElem?_eq_getElem h6] using h5
            have HNK : Hid ((rdL (own.take (j + 1))).length = kk + 1) := by show _ = _; rw [HTJ.out, if_pos rfl, List.length_append, HKK.out]; rfl
            have hk1 : (kk : Int) < (ns : Int) := by omega
            have hgd : decide ((ns : Int) ≤ (kk : Int)) = false := decide_eq_false (by omega)
            obtain ⟨rfl, s0, s1, s2⟩ := HSS.out wr HTU.out kk hks
            obtain ⟨⟨st, si, sf⟩, hso⟩ : ∃ o : Op3, opAt sl kk = o := ⟨_, rfl⟩
            rw [hso] at s0 s1 s2 hat
            simp only at s0 s1 s2 hat
            subst hat
            clear hso hr'
            by_cases g2 : sf = lf
            · have g2' : (sf != lf) = false := by simpa using g2
              clear g2
              go_upto_region 15 with (fail)
              go_quiet (fail)
              go_wp2_with fail
              go_roundw
              case rel => exact ⟨j + 1, kk + 1, by omega, HNK.out, by go_num, by go_num, ⟨_, HB4.out _⟩, HT4.out _⟩
              case measure => simp [intOf]; omega
            · have g2' : (sf != lf) = true := by simpa using g2
              clear g2
              go_upto_region 15 with (fail)
              go_quiet (fail)
              go_wp2_with fail
              go_ret
              exact ⟨⟨_, rfl⟩, (HB4.out _).old⟩
          · have hx1 := isOp_pos hio (.inr rfl)
            have hx6 : x ≤ 6 := by simp [isOpB, endsB] at hio; omega
            simp only at hx1
            obtain ⟨m, rfl⟩ : ∃ m : Nat, x = (m : Int) + 1 := ⟨(x - 1).toNat, by omega⟩
            have hm6' : m < 6 := by omega
            obtain ⟨l0, l1⟩ := HBS.out.nums m hm6'
            have hm0 : (0 : Int) ≤ (m : Int) := by omega
            have hmn : ¬ (m : Int) < 0 := by omega
            have hm6 : (m : Int) < 6 := by omega
            have hsb : (m : Int) + 1 - 1 = (m : Int) := by omega
            have hwp : IntKind.i64.wrap (m : Int) = (m : Int) := by rw [IntKind.wrap_i64]; omega
            have HPU : Hid (BySt w (wr.setCell ⟨L, m, none⟩ (.int .i64 t')) P L (.slice x1 y1 z1) (.slice x2 y2 z2) (.slice x3 la.length z3) (fun j => if j = m then t' else fl j)) := HBS.out.put hm6' t'
            have HTU2 : Hid (Turns (fun j => j = L) w3 (wr.setCell ⟨L, m, none⟩ (.int .i64 t'))) := by
              refine Turns.setCell HTU.out ?_ _
              exact .inl rfl
            obtain ⟨-, f0, f1, f2⟩ := HOO.out _ HTU2.out j hlt2
            rw [HOA.out] at f0 f1 f2
            simp only at f0 f1 f2
            have HNK : Hid ((rdL (own.take (j + 1))).length = kk) := by show _ = _; rw [HTJ.out, if_neg (by decide), List.append_nil]; exact HKK.out
            clear hio hx1 hx6
            go_upto_region 14 with (fail)
            obtain ⟨W5, hQ⟩ : ∃ Z : World, Z = wr.setCell ⟨L, m, none⟩ (.int .i64 t') := ⟨_, rfl⟩
            rw [← hQ] at HPU HTU2 f0 f1 f2 ⊢
            clear hQ l0 l1 e0 e1 e2
            go_wp2_with fail
            go_roundw
            case rel => exact ⟨j + 1, kk, by omega, HNK.out, by go_num, rfl, ⟨_, HPU.out⟩, HTU2.out⟩
            case measure => simp [intOf]; omega
          · have ha1 : (a == 1) = false := by simp; omega
            have ha2 : (a == 2) = false := by simp; omega
            have HNK : Hid ((rdL (own.take (j + 1))).length = kk) := by show _ = _; rw [HTJ.out, if_neg (by omega), List.append_nil]; exact HKK.out
            clear hio h34 hx0
            go_wp2_with fail
            go_roundw
            case rel => exact ⟨j + 1, kk, by omega, HNK.out, by go_num, rfl, ⟨_, HBS.out⟩, HTU.out⟩
            case measure => simp [intOf]; omega
        · have hlt2' : ¬ (j : Int) < (no : Int) := by omega
          obtain rfl : j = no := by omega
          have hke : kk = ns := by
            have h5 := HKK.out
            rw [← HSO.out.1, List.take_length, ← HRD.out, List.length_map] at h5
            exact h5.symm.trans HSO.out.2
          subst hke
          go_wp2_with fail
          go_roundw
          case rel => exact ⟨k + 1, by omega, by go_num, _, HBS.out⟩
          case measure => simp [intOf]; omega
    · have hlt' : ¬ (k : Int) < (ord.length : Int) := by omega
      obtain rfl : k = ord.length := by omega
      obtain ⟨q0, q1, q2⟩ := HSK.out.box.cells
      have HSI : Hid (Calls Try.prog 19 #[.slice x3 la.length z3, .slice (some ⟨L, 0, none⟩) 6 6] wr fun e w' => ∃ b, e = .returned (.bool b) ∧ Below wr.heap.size wr w') := by
        have hl : ((List.range 6).map f0').length = 6 := by simp
        have h5 : NumsAt wr L ((List.range 6).map f0').length f0' := by rw [hl]; exact HSK.out.nums
        have h6 := h5.ints HSK.out.ltL fun j hj => by rw [hl] at hj; simp [hj]
        rw [hl] at h6
        exact (ints_any la ((List.range 6).map f0') _ _ wr (H3.out.below HSK.out.old (Nat.le_refl _)) h6 (by rw [HL6.out]; omega)).mono fun e w' ⟨he, hb⟩ => ⟨_, he, hb⟩
      go_wp2_with fail
      refine HSI.out.mono ?_
      rintro e w2 ⟨bz, rfl, hb2⟩
      have HB2 : Hid (Below w.heap.size w w2) := HSK.out.old.trans (hb2.mono HSK.out.old.size)
      clear hb2
      go_wp2_with fail
      go_ret
      exact ⟨⟨_, rfl⟩, HB2.out⟩
end Go.Proofs.Ytccjognnehoodag

namespace Go.Proofs.Ytccjognnehoodag
open Go.RowKit

theorem row_less {w : World} {base base2 e size n : Nat} {v : Value} {xs : List Value} (h : w.ownsRow base e size v n xs) (hb : base2 ≤ base) : w.ownsRow base2 e size v n xs := by
  obtain ⟨hl, hd | ⟨g, cap, cur, hv, hbg, hg, hn, hm, hsz, htk⟩⟩ := h
  · exact ⟨hl, .inl hd⟩
  · exact ⟨hl, .inr ⟨g, cap, cur, hv, Nat.le_trans hb hbg, hg, hn, hm, hsz, htk⟩⟩
theorem run_append_apart {P : Program} (w : World) (base : Nat) (t ty e : TypeId) (i : TypeInfo) (z : Value) (size bytes : Nat) (ht : P.underlying t = some (.slice e)) (hi : P.info? e = some i) (hz : i.zero = some z)
    (hsize : i.size = size) (hby : i.bytes = bytes) (hzs : z.cells.size = size) (hsz : 0 < size)
    (v : Value) (n : Nat) (xs : List Value) (hown : w.ownsRow base e size v n xs)
    (a : Addr) (m c : Nat) (news : List Value) (hl : news.length = m * size) (hnews : ∀ j u, news[j]? = some u → w.cell? (a.add j) = some u) (h1 : ∀ u ∈ news, u.oneCell' = true)
    (h63 : n + m ≤ maxLen) (hbytes : (n + m) * bytes ≤ 140737488355328) (hbase : base ≤ w.heap.size) :
    ∃ v' w', (Builtin.append_ #[t, t] ty #[v, .slice (some a) m c]).run P w = .ok v' w' ∧ w'.ownsRow base e size v' (n + m) (xs ++ news) ∧ w.grownBy w' v.ownBlock ∧
      ∀ g, v'.ownBlock = some g → v.ownBlock = some g ∨ w.heap.size ≤ g := by
  have hown' := hown
  rcases hown.2 with ⟨rfl, rfl⟩ | ⟨g, cap, cur, rfl, hbg, hg, hnc, hcm, hcs, htake⟩
  · have hx : xs = [] := List.eq_nil_of_length_eq_zero (by simpa using hown.1)
    subst hx
    obtain ⟨v', w', hr, ho, hgr, -⟩ := run_append_own (P := P) w w.heap.size t ty e i z size bytes ht hi hz hsize hby hzs hsz (.slice none 0 0) 0 [] (World.ownsRow_nil w _ e size) a m c news hl hnews h1 h63 hbytes (Nat.le_refl _)
    exact ⟨v', w', hr, row_less ho hbase, hgr, fun g hg => .inr (ho.lt g hg).1⟩
  · by_cases hroom : n + m ≤ cap
    · obtain ⟨v', w', hr, ho, hgr, -⟩ := run_append_own (P := P) w base t ty e i z size bytes ht hi hz hsize hby hzs hsz (.slice (some ⟨g, 0, none⟩) n cap) n xs hown' a m c news hl hnews h1 h63 hbytes hbase
      subst hsize
      have hfit : n * i.size + news.length ≤ cur.size := by rw [hl, hcs, ← Nat.add_mul]; exact Nat.mul_le_mul_right _ hroom
      have hr2 := run_append_room (P := P) w t ty e i ht hi g n cap cur hg a m c news hl hnews h1 hroom hfit
      rw [hr2] at hr
      injection hr with e1 e2
      subst e1
      exact ⟨_, w', by rw [hr2, e2], ho, hgr, fun q hq => .inl (by simpa [Value.ownBlock] using hq)⟩
    · obtain ⟨v', w', hr, ho, hgr⟩ := run_append_arg_grows (P := P) w t ty e i z size bytes ht hi hz hsize hby hzs hsz ⟨g, 0, none⟩ n cap xs hown.1 (hown.cells (g := g) rfl) a m c news hl hnews (by omega) h63 hbytes
      exact ⟨v', w', hr, row_less ho hbase, ⟨hgr.os, hgr.tape, hgr.output, hgr.size, fun k hk _ => hgr.block k hk (by simp)⟩, fun q hq => .inr (ho.lt q hq).1⟩
theorem wp_append_apart {P : Program} {o : Oper} {a : Act} (w : World) {K : Act → World → Prop} {Q : Exit → Act → World → Prop} (s x : Operand) (t : TypeId)
    (ho : o.op = .call { callee := .builtin .append, args := #[s, x], argTypes := #[t, t] })
    (base : Nat) (e : TypeId) (i : TypeInfo) (z : Value) (size bytes : Nat) (ht : P.underlying t = some (.slice e)) (hi : P.info? e = some i) (hz : i.zero = some z)
    (hsize : i.size = size) (hby : i.bytes = bytes) (hzs : z.cells.size = size) (hsz : 0 < size)
    (v : Value) (n : Nat) (xs : List Value) (hs : a.eval s = v) (hown : w.ownsRow base e size v n xs)
    (ad : Addr) (m c : Nat) (news : List Value) (hx : a.eval x = .slice (some ad) m c) (hl : news.length = m * size) (hnews : ∀ j u, news[j]? = some u → w.cell? (ad.add j) = some u) (h1 : ∀ u ∈ news, u.oneCell' = true)
    (h63 : n + m ≤ maxLen) (hbytes : (n + m) * bytes ≤ 140737488355328) (hbase : base ≤ w.heap.size)
    (h : ∀ v' w', w'.ownsRow base e size v' (n + m) (xs ++ news) → w.grownBy w' v.ownBlock → (∀ g, v'.ownBlock = some g → v.ownBlock = some g ∨ w.heap.size ≤ g) → K (a.put o.dst v') w') : o.wp P a w K Q := by
  obtain ⟨v', w', hr, h2, h3, h4⟩ := run_append_apart (P := P) w base t o.type e i z size bytes ht hi hz hsize hby hzs hsz v n xs hown ad m c news hl hnews h1 h63 hbytes hbase
  unfold Oper.wp execOp
  simp only [ho, resolve, invoke, builtin, Sem.run_bind, Sem.run_pure, Result.andThen_ok, List.map_toArray, List.map_cons, List.map_nil, hs, hx, hr]
  exact h v' w' h2 h3 h4
/-- As one step of a region that draws. -/
theorem step_append_apart {P : Program} {ops : Array Oper} {o : Oper} {a : Act} {w : World} {K : Act → World → Prop} {Q : Exit → Act → World → Prop} {E : Prop}
    (hgd : o.guard = none) (s x : Operand) (t : TypeId) (ho : o.op = .call { callee := .builtin .append, args := #[s, x], argTypes := #[t, t] })
    (base : Nat) (e : TypeId) (i : TypeInfo) (z : Value) (size bytes : Nat) (ht : P.underlying t = some (.slice e)) (hi : P.info? e = some i) (hz : i.zero = some z)
    (hsize : i.size = size) (hby : i.bytes = bytes) (hzs : z.cells.size = size) (hsz : 0 < size)
    (v : Value) (n : Nat) (xs : List Value) (hs : a.eval s = v) (hown : w.ownsRow base e size v n xs)
    (ad : Addr) (m c : Nat) (news : List Value) (hx : a.eval x = .slice (some ad) m c) (hl : news.length = m * size) (hnews : ∀ j u, news[j]? = some u → w.cell? (ad.add j) = some u) (h1 : ∀ u ∈ news, u.oneCell' = true)
    (h63 : n + m ≤ maxLen) (hbytes : (n + m) * bytes ≤ 140737488355328) (hbase : base ≤ w.heap.size)
    (h : ∀ v' w', w'.ownsRow base e size v' (n + m) (xs ++ news) → w.grownBy w' v.ownBlock → (∀ g, v'.ownBlock = some g → v.ownBlock = some g ∨ w.heap.size ≤ g) → K (a.put o.dst v') w') :
    if Region.wanted o (yielded ops a.tmps) = true then Oper.wp P o a w K Q else E := by
  have hw : Region.wanted o (yielded ops a.tmps) = true := by simp [Region.wanted, hgd]
  rw [if_pos hw]
  exact wp_append_apart w s x t ho base e i z size bytes ht hi hz hsize hby hzs hsz v n xs hs hown ad m c news hx hl hnews h1 h63 hbytes hbase h
/-- As an operation of a region in the text's order. -/
theorem wpList_append_apart {P : Program} (w : World) {ops : Array Oper} {rest : List Oper} {o : Oper} {a : Act} {Q : Exit → Act → World → Prop} (hgd : o.guard = none) (s x : Operand) (t : TypeId)
    (ho : o.op = .call { callee := .builtin .append, args := #[s, x], argTypes := #[t, t] })
    (base : Nat) (e : TypeId) (i : TypeInfo) (z : Value) (size bytes : Nat) (ht : P.underlying t = some (.slice e)) (hi : P.info? e = some i) (hz : i.zero = some z)
    (hsize : i.size = size) (hby : i.bytes = bytes) (hzs : z.cells.size = size) (hsz : 0 < size)
    (v : Value) (n : Nat) (xs : List Value) (hs : a.eval s = v) (hown : w.ownsRow base e size v n xs)
    (ad : Addr) (m c : Nat) (news : List Value) (hx : a.eval x = .slice (some ad) m c) (hl : news.length = m * size) (hnews : ∀ j u, news[j]? = some u → w.cell? (ad.add j) = some u) (h1 : ∀ u ∈ news, u.oneCell' = true)
    (h63 : n + m ≤ maxLen) (hbytes : (n + m) * bytes ≤ 140737488355328) (hbase : base ≤ w.heap.size)
    (h : ∀ v' w', w'.ownsRow base e size v' (n + m) (xs ++ news) → w.grownBy w' v.ownBlock → (∀ g, v'.ownBlock = some g → v.ownBlock = some g ∨ w.heap.size ≤ g) → wpList P ops Q rest (a.put o.dst v') w') : wpList P ops Q (o :: rest) a w :=
  wpList_plain hgd fun _ hK => wp_append_apart w s x t ho base e i z size bytes ht hi hz hsize hby hzs hsz v n xs hs hown ad m c news hx hl hnews h1 h63 hbytes hbase fun v' w' h2 h3 h4 => hK _ _ (h v' w' h2 h3 h4)
theorem apart_later {w : World} {o : Obj} {v v' : Value} (h : ∀ g, v'.ownBlock = some g → v.ownBlock = some g ∨ (w.drew.alloc o).heap.size ≤ g) : ∀ g, v'.ownBlock = some g → v.ownBlock = some g ∨ w.heap.size ≤ g := fun g hg => by
  rcases h g hg with h | h
  · exact .inl h
  · have h2 : (w.drew.alloc o).heap.size = w.heap.size + 1 := by simp
    exact .inr (by omega)
end Go.Proofs.Ytccjognnehoodag
