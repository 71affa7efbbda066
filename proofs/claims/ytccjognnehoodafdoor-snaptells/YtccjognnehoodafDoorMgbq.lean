/-
  PROVED HERE: package snap: which two of a rising list are told, for any closure that says of which; whether two ran at once, as a closure over a run of package course tells it; Together keeps what it is asked (TogC), if slices.Sort sorts.
  Conditions: what slices.Sort does is a premise of the last (SortC).
  PROVED HERE: the library's contracts of slices.Sort, Equal, Contains, Index, IndexFunc and DeleteFunc at lists of numbers, laid at this program (each function's body is held against the one that the contract was proved of).
  Conditions: none.
-/
import Derived.Test.YtccjognnehoodafDoorMgbo
import Derived.Test.YtccjognnehoodafDoorMgbp
import Derived.Test.YtccjognnehoodafDoorMgbe
import Derived.Shelf.Sort.Plain
import Derived.Shelf.Slices.Turned
import Derived.Shelf.Slices.In.SortNone
import Derived.Ground.SlgfProg
import Derived.Shelf.SlicesE.IndexFunc
import Derived.Test.YtccjognnehoodafDoorProg
namespace Go.Proofs.YtccjognnehoodafDoor
open Go.RowKit

/-- What is still to be told in a round. -/
def restG (is : Int → Int → Bool) (x : Int) (r : List Int) (j : Nat) : List Edge2 := (((r.drop j).filter (is x)).map fun y => (x, y)) ++ pairsG is r
theorem restG_end (is : Int → Int → Bool) (x : Int) (r : List Int) : restG is x r r.length = pairsG is r := by unfold restG; rw [List.drop_length]; rfl
theorem drop_getQ {r : List Int} {j : Nat} (h : j < r.length) : r.drop j = r.getD j 0 :: r.drop (j + 1) := by rw [List.drop_eq_getElem_cons h]; simp [List.getD, List.getElem?_eq_getElem h]
theorem restG_hit {is : Int → Int → Bool} {x : Int} {r : List Int} {j : Nat} (h : j < r.length) (hq : is x (r.getD j 0) = true) (out : List Edge2) : (out ++ [(x, r.getD j 0)]) ++ restG is x r (j + 1) = out ++ restG is x r j := by
  unfold restG
  rw [drop_getQ h, List.filter_cons, if_pos hq]
  simp
theorem restG_miss {is : Int → Int → Bool} {x : Int} {r : List Int} {j : Nat} (h : j < r.length) (hq : is x (r.getD j 0) = false) : restG is x r (j + 1) = restG is x r j := by
  unfold restG
  rw [drop_getQ h, List.filter_cons, if_neg (by rw [hq]; decide)]
theorem restG_first {is : Int → Int → Bool} {ds : List Int} {i : Nat} (h : i < ds.length) : restG is (ds.getD i 0) (ds.drop (i + 1)) 0 = pairsG is (ds.drop i) := by
  rw [drop_getQ h]
  unfold restG
  rw [List.drop_zero, pairsG]
set_option maxHeartbeats 8000000 in
set_option maxRecDepth 100000 in
theorem pairs_fn (ds : List Int) (v : Value) (is : Int → Int → Bool) (N : Nat) (b0 : Value) (base : Nat) (w : World) (hcall : RuleFn N) (hrow : w.ownsRow base 3 1 v ds.length (ds.map (Value.int .i64))) (hlen : ds.length ≤ 1000) (hG : (pairsG is ds).length ≤ 1000)
    (hp : ∀ W : World, Below w.heap.size w W → ∀ a ∈ ds, ∀ b ∈ ds, Calls Tryd.prog N #[b0, .int .i64 a, .int .i64 b] W fun r w' => r = .returned (.bool (is a b)) ∧ Below W.heap.size W w') :
    Calls Tryd.prog 30 #[v, .func (.func N) #[b0] #[]] w fun e w' => ∃ v', e = .returned v' ∧ IsEdges w' v' (pairsG is ds) ∧ Below w.heap.size w w' := by
  have hI := isInts_own hrow rfl
  have HD : Hid (∀ i : Nat, i < ds.length → ∃ a c, (∀ W, (Instr.sliceAt 23 v (some (.int .i64 ((i : Int) + 1))) none none).run Tryd.prog W = .ok (.slice a (ds.length - (i + 1)) c) W) ∧ IsInts w (.slice a (ds.length - (i + 1)) c) (ds.drop (i + 1))) := fun i hi => own_drop hrow (n := i + 1) (by omega)
  obtain ⟨ad, b, off, cap, rfl, ha, -, hbB, hc⟩ := hI
  have HE : Hid (∀ W, Below w.heap.size w W → ∀ k, k < ds.length → ad = some ⟨b, off, none⟩ ∧ b < W.heap.size ∧ W.cell? ⟨b, off + k, none⟩ = some (.int .i64 (ds.getD k 0))) := fun W hW k hk => by
    have hb : b < w.heap.size := by
      rcases hbB with h | h
      · exact h
      · subst h; simp at hk
    exact ⟨ha (by omega), Nat.lt_of_lt_of_le hb hW.size, (hW.cell (p := ⟨b, off + k, none⟩) hb).trans (hc k hk)⟩
  have HP : Hid (∀ W : World, Below w.heap.size w W → ∀ a ∈ ds, ∀ b ∈ ds, Calls Tryd.prog N #[b0, .int .i64 a, .int .i64 b] W fun r w' => r = .returned (.bool (is a b)) ∧ Below W.heap.size W w') := hp
  obtain ⟨i0, hi, hz0, hs0, hy0⟩ := info_parts infoEdge
  have HI : Hid (Tryd.prog.info? 42 = some i0 ∧ i0.zero = some (.agg #[.int .i64 0, .int .i64 0]) ∧ i0.size = 2 ∧ i0.bytes = 16) := ⟨hi, hz0, hs0, hy0⟩
  have HG := hid_q hG
  obtain ⟨n, hn⟩ : ∃ n, ds.length = n := ⟨_, rfl⟩
  have HN := hid_q hn
  rw [hn] at HD HE hlen
  rw [hn]
  clear hi hz0 hs0 hy0 hrow hp ha hbB hc hG hn
  go_enter Tryd.func30, Tryd.ntmps30
  go_wp2_with fail
  go_loopw [5, 12] (fun v5 v12 wr => ∃ (i : Nat) (out : List Edge2), i ≤ n ∧ v12 = .int .i64 i ∧ wr.ownsRow w.heap.size 42 2 v5 out.length (flatE out) ∧ out ++ pairsG is (ds.drop i) = pairsG is ds ∧ Below w.heap.size w wr) (fun _ v12 _ => n - (intOf v12).toNat)
  case atStart => exact ⟨0, [], Nat.zero_le _, rfl, World.ownsRow_nil _ _ _ _, by rw [List.drop_zero]; rfl, Below.refl _ _⟩
  case round =>
    obtain ⟨i, out, hin, rfl, hown, hout, hbel⟩ := hrel
    have HOWN := hid_q hown
    have HOUT := hid_q hout
    have HB := hid_q hbel
    clear hown hout hbel
    by_cases hlt : i < n
    · have hlt' : (i : Int) < (n : Int) := by omega
      obtain ⟨a1, c1, hsl, hsub⟩ := HD.out i hlt
      obtain ⟨rfl, hbw, e0⟩ := HE.out wr HB.out i hlt
      obtain ⟨x, hx⟩ : ∃ x, ds.getD i 0 = x := ⟨_, rfl⟩
      rw [hx] at e0
      have HX : Hid (x ∈ ds) := by show x ∈ ds; rw [← hx]; have := HN.out; simp [List.getD, List.getElem?_eq_getElem (show i < ds.length by omega)]
      have HF : Hid (restG is x (ds.drop (i + 1)) 0 = pairsG is (ds.drop i)) := by show _ = _; rw [← hx]; exact restG_first (by have := HN.out; omega)
      obtain ⟨r, hr⟩ : ∃ r, ds.drop (i + 1) = r := ⟨_, rfl⟩
      have HMR : Hid (∀ y ∈ r, y ∈ ds) := fun y hy => by rw [← hr] at hy; exact List.mem_of_mem_drop hy
      obtain ⟨m, hm⟩ : ∃ m, n - (i + 1) = m := ⟨_, rfl⟩
      have HRL : Hid (r.length = m) := by show r.length = m; rw [← hr, List.length_drop, HN.out]; exact hm
      have hm1000 : m ≤ 1000 := by omega
      rw [hm] at hsl hsub
      rw [hr] at hsub HF
      have HR := hid_q hr
      obtain ⟨ad2, b2, off2, cap2, e2, ha2, -, hbB2, hc2⟩ := hsub
      injection e2 with e3 e4 e5
      have HE2 : Hid (∀ W, Below w.heap.size w W → ∀ k, k < m → a1 = some ⟨b2, off2, none⟩ ∧ b2 < W.heap.size ∧ W.cell? ⟨b2, off2 + k, none⟩ = some (.int .i64 (r.getD k 0))) := fun W hW k hk => by
        have hb : b2 < w.heap.size := by
          rcases hbB2 with h | h
          · exact h
          · rw [h] at e4; simp at e4; omega
        exact ⟨by rw [e3]; exact ha2 (by omega), Nat.lt_of_lt_of_le hb hW.size, (hW.cell (p := ⟨b2, off2 + k, none⟩) hb).trans (hc2 k (by omega))⟩
      obtain ⟨WR, hWR⟩ : ∃ W : World, W = wr := ⟨_, rfl⟩
      subst hWR
      clear hx hr hm e3 e4 e5 ha2 hbB2 hc2
      go_wp2_with fail
      go_loopw [5, 22] (fun v5 v22 wr => ∃ (j : Nat) (out : List Edge2), j ≤ m ∧ v22 = .int .i64 j ∧ wr.ownsRow w.heap.size 42 2 v5 out.length (flatE out) ∧ out ++ restG is x r j = pairsG is ds ∧ Below w.heap.size w wr) (fun _ v22 _ => m - (intOf v22).toNat)
      case atStart => exact ⟨0, out, Nat.zero_le _, rfl, HOWN.out, by rw [HF.out]; exact HOUT.out, HB.out⟩
      case round =>
        clear HOWN HOUT HB e0 hbw hsl
        obtain ⟨j, out, hjm, rfl, hown, hout, hbel⟩ := hrel
        have HOWN := hid_q hown
        have HOUT := hid_q hout
        have HB := hid_q hbel
        have hol : out.length ≤ 1000 := by
          have h1 := congrArg List.length hout
          have h2 := HG.out
          rw [List.length_append] at h1
          omega
        clear hown hout hbel
        by_cases hjl : j < m
        · have hjl' : (j : Int) < (m : Int) := by omega
          obtain ⟨rfl, hbw2, f0⟩ := HE2.out wr HB.out j hjl
          obtain ⟨y, hy⟩ : ∃ y, r.getD j 0 = y := ⟨_, rfl⟩
          rw [hy] at f0
          have HY : Hid (y ∈ ds) := HMR.out y (by rw [← hy]; have := HRL.out; simp [List.getD, List.getElem?_eq_getElem (show j < r.length by omega)])
          have hjr : j < r.length := by rw [HRL.out]; exact hjl
          cases hq : is x y with
          | false =>
            have HQ : Hid (out ++ restG is x r (j + 1) = pairsG is ds) := by show _ = _; rw [restG_miss hjr (by rw [hy]; exact hq)]; exact HOUT.out
            have HC : Hid (Calls Tryd.prog N #[b0, .int .i64 x, .int .i64 y] wr fun r w' => r = .returned (.bool false) ∧ Below wr.heap.size wr w') := hq ▸ HP.out wr HB.out x HX.out y HY.out
            clear hq hy hjr
            go_wp2_with fail
            refine HC.out.mono ?_
            rintro e w1 ⟨rfl, hb1⟩
            have HB1 := hid_q hb1
            clear hb1
            go_wp2_with fail
            go_roundw
            case rel => exact ⟨j + 1, out, by omega, by go_num, (Turns.of_below (F := fun _ => False) HB1.out).own HOWN.out (fun _ _ hf => hf), HQ.out, HB.out.trans (HB1.out.mono HB.out.size)⟩
            case measure => simp [intOf]; omega
          | true =>
            have HQ : Hid ((out ++ [(x, y)]) ++ restG is x r (j + 1) = pairsG is ds) := by show _ = _; rw [← HOUT.out, ← restG_hit hjr (by rw [hy]; exact hq) out, hy]
            have HC : Hid (Calls Tryd.prog N #[b0, .int .i64 x, .int .i64 y] wr fun r w' => r = .returned (.bool true) ∧ Below wr.heap.size wr w') := hq ▸ HP.out wr HB.out x HX.out y HY.out
            obtain ⟨ln, hln⟩ : ∃ ln, out.length = ln := ⟨_, rfl⟩
            have HLN := hid_q hln
            rw [hln] at HOWN hol
            clear hq hy hjr hln
            go_wp2_with fail
            refine HC.out.mono ?_
            rintro e w1 ⟨rfl, hb1⟩
            have HB1 := hid_q hb1
            have hown1 : w1.ownsRow w.heap.size 42 2 u5 ln (flatE out) := (Turns.of_below (F := fun _ => False) hb1).own HOWN.out (fun _ _ hf => hf)
            have HOW1 := hid_q hown1
            have hbw1 : Below w.heap.size w w1 := HB.out.trans (hb1.mono HB.out.size)
            have HBW1 := hid_q hbw1
            have hsz1 := hbw1.size
            clear hb1 hown1 hbw1
            go_wp2_with (at_builtin; refine wpList_append_own _ rfl (.tmp 30) (.tmp 34) 34 rfl w.heap.size 42 i0 (.agg #[.int .i64 0, .int .i64 0]) 2 16 Tryd.underlying34 HI.out.1 HI.out.2.1 HI.out.2.2.1 HI.out.2.2.2 rfl (by decide) u5 ln (flatE out) rfl (HOW1.out.alloc _) ⟨w1.heap.size, 0, none⟩ 1 1 (flatE [(x, y)]) rfl rfl (one_edge w1 x y) (flatE_one _) (by unfold maxLen; omega) (by omega) (by simp; omega) ?_; intro v3 w3 hown3 hgr3 hnil3)
            have hB3 := (HBW1.out.alloc hsz1 _).grown hgr3 (by simp; omega) (fun k hk => (HOW1.out.lt k hk).1)
            go_roundw
            case rel => exact ⟨j + 1, out ++ [(x, y)], by omega, by go_num, by rw [List.length_append, HLN.out, flatE_append]; exact hown3, HQ.out, hB3⟩
            case measure => simp [intOf]; omega
        · have hjl' : ¬ (j : Int) < (m : Int) := by omega
          have HQ : Hid (out ++ pairsG is (ds.drop (i + 1)) = pairsG is ds) := by
            show _ = _
            have h1 := HOUT.out
            rw [show j = r.length by rw [HRL.out]; omega, restG_end] at h1
            rw [HR.out]
            exact h1
          go_wp2_with fail
          go_roundw
          case rel => exact ⟨i + 1, out, by omega, by go_num, HOWN.out, HQ.out, HB.out⟩
          case measure => simp [intOf]; omega
    · have hlt' : ¬ (i : Int) < (n : Int) := by omega
      have HQ : Hid (out = pairsG is ds) := by
        show out = _
        have h1 := HOUT.out
        rw [List.drop_of_length_le (by have := HN.out; omega), pairsG, List.append_nil] at h1
        exact h1
      go_wp2_with fail
      go_ret
      exact ⟨_, rfl, by rw [← HQ.out]; exact isEdges_own HOWN.out rfl, HB.out⟩
theorem call_once : RuleFn 31 := fun args W => by kernel_rfl
set_option maxHeartbeats 8000000 in
set_option maxRecDepth 100000 in
theorem tog_sort (hSort : SortC) : TogC 11 := by
  intro l v w hI
  have HRL := hid_q (rules_fn w)
  by_cases hc : (chk l).2 = 0
  · have HER : Hid (errV (chk l).2 = .nilIface) := by show _ = _; rw [hc]; exact if_pos rfl
    rw [if_neg (by rw [hc]; decide)]
    have HWH : Hid (∀ W, Below w.heap.size w W → _) := fun W hW => whole_ok call_asItWas call_over seesS_c fallS_c.k l v W (fun _ _ => trivial) (hI.below hW (Nat.le_refl _)) hc
    obtain ⟨hl40, hop, hcalm⟩ := (chk_iff l).1 hc
    have HOK : Hid (CrsOk 1000 (runQ seesS fallS l l.length)) := (crsOk_all seesS fallS hop l.length (Nat.le_refl _)).up (by omega)
    have hF := cfit_all rulesS hc l.length (Nat.le_refl _)
    have hK := run_kOk 2 okS hc l.length (Nat.le_refl _)
    have HEQ : Hid (pairsG (isT (runQ seesS fallS l l.length)) (sortI (runQ seesS fallS l l.length).done) = togL (runK 2 okS l l.length).of (runK 2 okS l l.length).done) := by
      show _ = _
      rw [hF.done]
      exact pairs_tog hK.once (fun t ht => ⟨(hK.comm t ht).2.1, (hK.comm t ht).2.2.1⟩) fun a ha b hb hab => isT_once hF hK ha hb hab
    have HBG : Hid (∀ t ∈ (runQ seesS fallS l l.length).done, ((runQ seesS fallS l l.length).began t).isSome = true) := fun t ht => by
      rw [hF.done] at ht
      rw [hF.beg t]
      exact (hK.comm t ht).1
    obtain ⟨ad, b, off, cap, rfl, -⟩ := hI
    obtain ⟨q, hq⟩ : ∃ q, runQ seesS fallS l l.length = q := ⟨_, rfl⟩
    rw [hq] at HOK HEQ HBG HWH
    rw [← HEQ.out, HER.out]
    have HGL : Hid ((pairsG (isT q) (sortI q.done)).length ≤ 1000) := by show _ ≤ _; rw [HEQ.out]; exact Nat.le_trans (allE_len _) (by decide)
    obtain ⟨m, hm⟩ : ∃ m, q.done.length = m := ⟨_, rfl⟩
    have HM := hid_q hm
    have HSO := hid_q hSort
    clear hc hop hcalm hl40 hF hK hq hm HEQ hSort
    go_enter Tryd.func11, Tryd.ntmps11
    go_wp2_with fail
    refine HRL.out.mono ?_
    rintro e w1 ⟨rfl, hb1⟩
    have HB1 := hid_q hb1
    clear hb1
    go_wp2_with fail
    refine (HWH.out w1 HB1.out).mono ?_
    rintro e w2 ⟨W0, R, rfl, hb2, c2, hk2⟩
    have HB2 : Hid (Below w.heap.size w w2) := HB1.out.trans ((hb2.trans (hk2.old.mono hb2.size)).mono HB1.out.size)
    have HK2 := hid_q hk2
    clear hb2 hk2
    have HDN := hid_q (done_crs HK2.out HOK.out.lenD)
    go_wp2_with fail
    refine HDN.out.mono ?_
    rintro e w4 ⟨v4, rfl, ho4, hb4⟩
    rw [HM.out] at ho4
    obtain ⟨ad4, c4, rfl, -⟩ := own_slice3 ho4
    have HSS := hid_q (HSO.out q.done _ _ m w4 HM.out HOK.out.lenD ho4)
    have HO4 := hid_q ho4
    have HB4 := hid_q hb4
    clear ho4 hb4
    go_wp2_with fail
    refine HSS.out.mono ?_
    rintro e w5 ⟨rfl, ho5, hg5⟩
    have hb5 : Below w2.heap.size w2 w5 := HB4.out.grown hg5 HB4.out.size fun k hk => (HO4.out.lt k hk).1
    have hsl : (sortI q.done).length = m := by rw [(sortI_perm q.done).length_eq]; exact HM.out
    rw [← hsl] at ho5
    have HPF := hid_q (pairs_fn (sortI q.done) _ (isT q) 31 (.pointer (some ⟨R, 0, none⟩)) _ w5 call_once ho5 (by rw [hsl, ← HM.out]; exact HOK.out.lenD) HGL.out fun W hW a ha b hb => by
      have ha' := (sortI_perm q.done).mem_iff.1 ha
      have hb' := (sortI_perm q.done).mem_iff.1 hb
      have hbw : Below w2.heap.size w2 W := hb5.trans (hW.mono hb5.size)
      have a6 := HOK.out.six a ha'
      have b6 := HOK.out.six b hb'
      exact once_crs (HK2.out.below hbw) HOK.out a6.1 a6.2 b6.1 b6.2 (HBG.out a ha') (HBG.out b hb'))
    rw [hsl] at HPF
    have HB5 : Hid (Below w.heap.size w w5) := HB2.out.trans (hb5.mono HB2.out.size)
    clear ho5 hg5 hb5 hsl
    go_wp2_with fail
    refine HPF.out.mono ?_
    rintro e w6 ⟨v6, rfl, hi6, hb6⟩
    have HI6 := hid_q hi6
    have HB6 : Hid (Below w.heap.size w w6) := HB5.out.trans (hb6.mono HB5.out.size)
    obtain ⟨ad6, n6, c6, rfl⟩ : ∃ d n p, v6 = .slice d n p := by obtain ⟨a, _, _, c, h, _⟩ := hi6; exact ⟨a, _, c, h⟩
    clear hi6 hb6
    go_wp2_with fail
    go_ret2
    exact ⟨_, rfl, HI6.out, HB6.out⟩
  · have HER : Hid (errV (chk l).2 = .iface 75 (.int .i64 (chk l).2)) := by show _ = _; unfold errV; rw [if_neg hc]
    rw [if_pos hc]
    have HWH : Hid (∀ W, Below w.heap.size w W → _) := fun W hW => whole_bad (.func (.func 47) #[] #[]) (.func (.func 48) #[] #[]) l v W (hI.below hW (Nat.le_refl _)) hc
    obtain ⟨ad, b, off, cap, rfl, -⟩ := hI
    obtain ⟨n, hn⟩ : ∃ n, (chk l).2 = n := ⟨_, rfl⟩
    rw [hn] at HWH HER
    rw [hn, HER.out]
    clear hc hn hSort
    go_enter Tryd.func11, Tryd.ntmps11
    go_wp2_with fail
    refine HRL.out.mono ?_
    rintro e w1 ⟨rfl, hb1⟩
    have HB1 := hid_q hb1
    clear hb1
    go_wp2_with fail
    refine (HWH.out w1 HB1.out).mono ?_
    rintro e w2 ⟨rfl, hb2⟩
    have HB2 : Hid (Below w.heap.size w w2) := HB1.out.trans (hb2.mono HB1.out.size)
    clear hb2
    go_wp2_with fail
    go_ret2
    exact ⟨_, rfl, isEdges_nil _, HB2.out⟩
end Go.Proofs.YtccjognnehoodafDoor

namespace Go.Proofs
open Go.Shelf
def Tryd.lays189_ren : Go.Shelf.Ren := ⟨fun | 189 => 29 | 125 => 51 | 257 => 50 | 128 => 76 | 129 => 77 | 294 => 67 | 295 => 68 | 296 => 69 | 297 => 70 | 298 => 71 | 299 => 72 | 216 => 73 | 300 => 74 | 301 => 75 | 328 => 84 | 329 => 85 | 330 => 86 | 331 => 87 | 332 => 88 | 215 => 89 | 343 => 94 | n => n, fun | 28 => 23 | 3 => 3 | 46 => 98 | 0 => 0 | 51 => 118 | 53 => 120 | 4 => 4 | 183 => 111 | 182 => 110 | 131 => 115 | 5 => 5 | 9 => 9 | 218 => 137 | 222 => 141 | 228 => 157 | 229 => 54 | n => n, fun | n => n⟩
theorem Tryd.lays189 : Go.Proofs.Lays.n189 Tryd.prog Tryd.lays189_ren := {
  mixed := by kernel_rfl
  f125 := Tryd.func51.trans (congrArg some (by kernel_rfl))
  f128 := Tryd.func76.trans (congrArg some (by kernel_rfl))
  f129 := Tryd.func77.trans (congrArg some (by kernel_rfl))
  f189 := Tryd.func29.trans (congrArg some (by kernel_rfl))
  f215 := Tryd.func89.trans (congrArg some (by kernel_rfl))
  f216 := Tryd.func73.trans (congrArg some (by kernel_rfl))
  f257 := Tryd.func50.trans (congrArg some (by kernel_rfl))
  f294 := Tryd.func67.trans (congrArg some (by kernel_rfl))
  f295 := Tryd.func68.trans (congrArg some (by kernel_rfl))
  f296 := Tryd.func69.trans (congrArg some (by kernel_rfl))
  f297 := Tryd.func70.trans (congrArg some (by kernel_rfl))
  f298 := Tryd.func71.trans (congrArg some (by kernel_rfl))
  f299 := Tryd.func72.trans (congrArg some (by kernel_rfl))
  f300 := Tryd.func74.trans (congrArg some (by kernel_rfl))
  f301 := Tryd.func75.trans (congrArg some (by kernel_rfl))
  f328 := Tryd.func84.trans (congrArg some (by kernel_rfl))
  f329 := Tryd.func85.trans (congrArg some (by kernel_rfl))
  f330 := Tryd.func86.trans (congrArg some (by kernel_rfl))
  f331 := Tryd.func87.trans (congrArg some (by kernel_rfl))
  f332 := Tryd.func88.trans (congrArg some (by kernel_rfl))
  f343 := Tryd.func94.trans (congrArg some (by kernel_rfl))
  t0 := Tryd.underlying0
  a0 := Tryd.isAgg0
  z0 := Tryd.sizeOf0
  v0 := Tryd.zeroValue0
  t3 := Tryd.underlying3
  a3 := Tryd.isAgg3
  z3 := Tryd.sizeOf3
  v3 := Tryd.zeroValue3
  t4 := Tryd.underlying4
  a4 := Tryd.isAgg4
  z4 := Tryd.sizeOf4
  v4 := Tryd.zeroValue4
  t5 := Tryd.underlying5
  a5 := Tryd.isAgg5
  z5 := Tryd.sizeOf5
  v5 := Tryd.zeroValue5
  t9 := Tryd.underlying9
  a9 := Tryd.isAgg9
  z9 := Tryd.sizeOf9
  v9 := Tryd.zeroValue9
  t28 := Tryd.underlying23
  a28 := Tryd.isAgg23
  z28 := Tryd.sizeOf23
  v28 := Tryd.zeroValue23
  t46 := Tryd.underlying98
  a46 := Tryd.isAgg98
  z46 := Tryd.sizeOf98
  v46 := Tryd.zeroValue98
  t51 := Tryd.underlying118
  a51 := Tryd.isAgg118
  z51 := Tryd.sizeOf118
  v51 := Tryd.zeroValue118
  t53 := Tryd.underlying120
  a53 := Tryd.isAgg120
  z53 := Tryd.sizeOf120
  v53 := Tryd.zeroValue120
  t131 := Tryd.underlying115
  a131 := Tryd.isAgg115
  z131 := Tryd.sizeOf115
  v131 := Tryd.zeroValue115
  t182 := Tryd.underlying110
  a182 := Tryd.isAgg110
  z182 := Tryd.sizeOf110
  v182 := Tryd.zeroValue110
  t183 := Tryd.underlying111
  a183 := Tryd.isAgg111
  z183 := Tryd.sizeOf111
  v183 := Tryd.zeroValue111
  t218 := Tryd.underlying137
  a218 := Tryd.isAgg137
  z218 := Tryd.sizeOf137
  v218 := Tryd.zeroValue137
  t222 := Tryd.underlying141
  a222 := Tryd.isAgg141
  z222 := Tryd.sizeOf141
  v222 := Tryd.zeroValue141
  t228 := Tryd.underlying157
  a228 := Tryd.isAgg157
  z228 := Tryd.sizeOf157
  v228 := Tryd.zeroValue157
  t229 := Tryd.underlying54
  a229 := Tryd.isAgg54
  z229 := Tryd.sizeOf54
  v229 := Tryd.zeroValue54 }
def Tryd.lays108_ren : Go.Shelf.Ren := ⟨fun | 108 => 83 | n => n, fun | 28 => 23 | 3 => 3 | 0 => 0 | 4 => 4 | n => n, fun | n => n⟩
theorem Tryd.lays108 : Go.Proofs.Lays.n108 Tryd.prog Tryd.lays108_ren := {
  mixed := by kernel_rfl
  f108 := Tryd.func83.trans (congrArg some (by kernel_rfl))
  t0 := Tryd.underlying0
  a0 := Tryd.isAgg0
  z0 := Tryd.sizeOf0
  v0 := Tryd.zeroValue0
  t3 := Tryd.underlying3
  a3 := Tryd.isAgg3
  z3 := Tryd.sizeOf3
  v3 := Tryd.zeroValue3
  t4 := Tryd.underlying4
  a4 := Tryd.isAgg4
  z4 := Tryd.sizeOf4
  v4 := Tryd.zeroValue4
  t28 := Tryd.underlying23
  a28 := Tryd.isAgg23
  z28 := Tryd.sizeOf23
  v28 := Tryd.zeroValue23 }
def Tryd.lays107_ren : Go.Shelf.Ren := ⟨fun | 107 => 58 | 108 => 83 | n => n, fun | 28 => 23 | 3 => 3 | 4 => 4 | 0 => 0 | n => n, fun | n => n⟩
theorem Tryd.lays107 : Go.Proofs.Lays.n107 Tryd.prog Tryd.lays107_ren := {
  mixed := by kernel_rfl
  f107 := Tryd.func58.trans (congrArg some (by kernel_rfl))
  f108 := Tryd.func83.trans (congrArg some (by kernel_rfl))
  t0 := Tryd.underlying0
  a0 := Tryd.isAgg0
  z0 := Tryd.sizeOf0
  v0 := Tryd.zeroValue0
  t3 := Tryd.underlying3
  a3 := Tryd.isAgg3
  z3 := Tryd.sizeOf3
  v3 := Tryd.zeroValue3
  t4 := Tryd.underlying4
  a4 := Tryd.isAgg4
  z4 := Tryd.sizeOf4
  v4 := Tryd.zeroValue4
  t28 := Tryd.underlying23
  a28 := Tryd.isAgg23
  z28 := Tryd.sizeOf23
  v28 := Tryd.zeroValue23 }
def Tryd.laysSlH6_f56_ren : Go.Shelf.Ren := ⟨fun | 6 => 56 | n => n, fun | 22 => 23 | 23 => 3 | 25 => 89 | 3 => 3 | 0 => 0 | 4 => 4 | n => n, fun | n => n⟩
theorem Tryd.laysSlH6_f56 : Go.Proofs.SlLaysH.n6 Tryd.prog Tryd.laysSlH6_f56_ren := {
  mixed := by kernel_rfl
  f6 := ⟨Tryd.f56.name, by decide, Tryd.func56.trans (congrArg some (by kernel_rfl))⟩
  t0 := Tryd.underlying0
  a0 := Tryd.isAgg0
  z0 := Tryd.sizeOf0
  v0 := Tryd.zeroValue0
  t3 := Tryd.underlying3
  a3 := Tryd.isAgg3
  z3 := Tryd.sizeOf3
  v3 := Tryd.zeroValue3
  t4 := Tryd.underlying4
  a4 := Tryd.isAgg4
  z4 := Tryd.sizeOf4
  v4 := Tryd.zeroValue4
  t22 := Tryd.underlying23
  a22 := Tryd.isAgg23
  z22 := Tryd.sizeOf23
  v22 := Tryd.zeroValue23
  a23 := Tryd.isAgg3
  z23 := Tryd.sizeOf3
  t25 := Tryd.underlying89
  a25 := Tryd.isAgg89
  z25 := Tryd.sizeOf89
  v25 := Tryd.zeroValue89 }
def Tryd.laysSlH8_f36_ren : Go.Shelf.Ren := ⟨fun | 8 => 36 | 6 => 56 | n => n, fun | 22 => 23 | 23 => 3 | 25 => 89 | 4 => 4 | 3 => 3 | 0 => 0 | n => n, fun | n => n⟩
theorem Tryd.laysSlH8_f36 : Go.Proofs.SlLaysH.n8 Tryd.prog Tryd.laysSlH8_f36_ren := {
  mixed := by kernel_rfl
  f6 := ⟨Tryd.f56.name, by decide, Tryd.func56.trans (congrArg some (by kernel_rfl))⟩
  f8 := ⟨Tryd.f36.name, by decide, Tryd.func36.trans (congrArg some (by kernel_rfl))⟩
  t0 := Tryd.underlying0
  a0 := Tryd.isAgg0
  z0 := Tryd.sizeOf0
  v0 := Tryd.zeroValue0
  t3 := Tryd.underlying3
  a3 := Tryd.isAgg3
  z3 := Tryd.sizeOf3
  v3 := Tryd.zeroValue3
  t4 := Tryd.underlying4
  a4 := Tryd.isAgg4
  z4 := Tryd.sizeOf4
  v4 := Tryd.zeroValue4
  t22 := Tryd.underlying23
  a22 := Tryd.isAgg23
  z22 := Tryd.sizeOf23
  v22 := Tryd.zeroValue23
  a23 := Tryd.isAgg3
  z23 := Tryd.sizeOf3
  t25 := Tryd.underlying89
  a25 := Tryd.isAgg89
  z25 := Tryd.sizeOf89
  v25 := Tryd.zeroValue89 }
end Go.Proofs
