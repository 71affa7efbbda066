/-
  PROVED HERE: serial.Order gives Check's error of a wrong list, ErrCycle where it goes around, else the order of all deals that commit, the least that could be next first. Old memory stays as it was.
  Conditions: none.
  PROVED HERE: laneref1.Tx, History and Right answer as the plain functions say, whatever the list of ops; old memory stays as it was.
  Conditions: none.
-/
import Derived.Test.YtjaeaanpbdmfgabGreatDoorSerDone
import Derived.Test.YtjaeaanpbdmfgabGreatDoorMgbb
import Derived.Test.YtjaeaanpbdmfgabGreatDoorOddEdgesWalk
import Derived.Test.YtjaeaanpbdmfgabGreatDoorMgbj
import Derived.Test.YtjaeaanpbdmfgabGreatDoorOrdPlain
import Derived.RegionTactic
import Derived.Deep.RegionWith
import Derived.Test.YtjaeaanpbdmfgabGreatDoorOps
import Derived.Test.YtjaeaanpbdmfgabGreatDoorDone
import Derived.Deep.QuietTactic
import Derived.BigQuiet
import Derived.WalkSmall
namespace Go.Proofs.YtjaeaanpbdmfgabGreatDoor
open Go.RowKit

set_option maxHeartbeats 2000000 in
theorem ord_bad (l : List Op3) (v : Value) (w : World) (h : IsOps w v l) (hc : (chk l).2 ≠ 0) :
    Calls Tryz.prog 15 #[v] w fun e w' => e = .returned (.tuple #[.slice none 0 0, .iface 58 (.int .i64 (chk l).2)]) ∧ Below w.heap.size w w' := by
  go_enter Tryz.func15, Tryz.ntmps15
  go_wp2_with (go_at_call 29; refine (ddeals_bad l _ _ h hc).mono ?_; rintro e w1 ⟨rfl, hb1⟩)
  go_ret2
  exact ⟨rfl, hb1⟩
set_option maxHeartbeats 4000000 in
set_option maxRecDepth 100000 in
theorem ord_any (l : List Op3) (v : Value) (w : World) (h : IsOps w v l) (hc : (chk l).2 = 0) :
    Calls Tryz.prog 15 #[v] w fun e w' => ((∃ o v', serOrd (doneL l) = some o ∧ e = .returned (.tuple #[v', .nilIface]) ∧ IsInts w' v' o) ∨ (serOrd (doneL l) = none ∧ e = .returned (.tuple #[.slice none 0 0, .iface 58 (.int .i64 8)]))) ∧ Below w.heap.size w w' := by
  have hdd := ddeals_ok l v w h hc
  have hed : ∀ W, Below w.heap.size w W → Calls Tryz.prog 35 #[v] W fun e w' => ∃ v', e = .returned (.tuple #[v', .nilIface]) ∧ IsEdges w' v' (edgesTo (doneL l) 36) ∧ Below W.heap.size W w' := fun W hW => edges_ok l v W (h.below hW (Nat.le_refl _)) hc
  obtain ⟨d, hd⟩ : ∃ d, doneL l = d := ⟨_, rfl⟩
  rw [hd] at hdd hed ⊢
  have HD : Hid (Calls Tryz.prog 29 #[v] w fun e w' => ∃ u v', e = .returned (.tuple #[u, v', .nilIface]) ∧ IsOps w' u d ∧ w'.ownsRow w.heap.size 3 1 v' (dealsL d).length ((dealsL d).map (Value.int .i64)) ∧ Below w.heap.size w w') := hdd
  have HE : Hid (∀ W, Below w.heap.size w W → Calls Tryz.prog 35 #[v] W fun e w' => ∃ v', e = .returned (.tuple #[v', .nilIface]) ∧ IsEdges w' v' (edgesTo d 36) ∧ Below W.heap.size W w') := hed
  have HDL : Hid ((dealsL d).length ≤ 6) := dealsTo_len d 6
  clear hd hdd hed h hc
  go_enter Tryz.func15, Tryz.ntmps15
  go_wp2_with fail
  refine HD.out.mono ?_
  rintro e w1 ⟨u1, v1, rfl, hI1, hown1, hb1⟩
  have HO1 : Hid (w1.ownsRow w.heap.size 3 1 v1 (dealsL d).length ((dealsL d).map (Value.int .i64))) := hown1
  clear hI1 hown1
  go_wp2_with fail
  refine (HE.out w1 hb1).mono ?_
  rintro e w2 ⟨v2, rfl, hE2, hb2⟩
  have hb02 := hb1.trans (hb2.mono hb1.size)
  have HE2 : Hid (IsEdges w2 v2 (edgesTo d 36)) := hE2
  clear hE2
  go_wp2_with fail
  refine (order_own (edgesTo d 36) _ _ HE2.out (edges_gchk d 36)).mono ?_
  rintro e w3 ⟨hor, hb3⟩
  have hb03 := hb02.trans (hb3.mono hb02.size)
  rcases hor with ⟨o, v3, ho, rfl, hown3, hol⟩ | ⟨ho, rfl⟩
  · have HQ : Hid (serOrd d = some (weaveL o ((dealsL d).filter fun x => !inB o x))) := by show serOrd d = _; unfold serOrd; rw [ho]; rfl
    have HO3 : Hid (w3.ownsRow w2.heap.size 3 1 v3 o.length (o.map (Value.int .i64))) := hown3
    have HO13 : Hid (w3.ownsRow w.heap.size 3 1 v1 (dealsL d).length ((dealsL d).map (Value.int .i64))) := own_past (own_past HO1.out hb2) hb3
    have HG : Hid (∀ g, v1.ownBlock = some g → w.heap.size ≤ g ∧ g < w2.heap.size) := fun g hg => by
      have h1 := HO1.out.lt g hg
      have h2 := hb2.size
      omega
    have hsz3 := hb3.size
    have HB3 : Hid (Below w.heap.size w w3) := hb03
    obtain ⟨ad3, cap3, hv3⟩ : ∃ ad cap, v3 = .slice ad o.length cap := by
      obtain ⟨_, ⟨h1, h2⟩ | ⟨g, c, cur, h1, _⟩⟩ := hown3
      · exact ⟨none, 0, by rw [h1, h2]⟩
      · exact ⟨_, c, h1⟩
    obtain ⟨n3, hn3⟩ : ∃ n3, o.length = n3 := ⟨_, rfl⟩
    rw [hn3] at hv3 HO3 hol
    have HN3 : Hid (o.length = n3) := hn3
    subst hv3
    clear hown3 ho hb1 hb2 hb3 hb02 hb03 hn3
    go_wp2_with fail
    have HW : Hid (∃ W : World, W = w3.alloc (.cells #[.slice ad3 n3 cap3] 23)) := ⟨_, rfl⟩
    obtain ⟨W, hW⟩ := HW.out
    clear HW
    rw [← hW]
    have HB : Hid (∀ W', W.drew.grownBy W' v1.ownBlock → W'.cell? ⟨w3.heap.size, 0, none⟩ = some (.slice ad3 n3 cap3) ∧ IsInts W' (.slice ad3 n3 cap3) o) := fun W' hg => by
      refine ⟨hg.cell (show W.drew.cell? ⟨w3.heap.size, 0, none⟩ = some (.slice ad3 n3 cap3) by rw [hW]; simp) fun e => ?_, ?_⟩
      · have := HG.out _ e.symm; simp at this; omega
      · refine isInts_own (World.ownsRow.kept (w := W.drew) (by rw [hW]; exact (HO3.out.alloc _).drew) hg ?_) HN3.out
        cases hv : (Value.slice ad3 n3 cap3).ownBlock with
        | none => exact .inl rfl
        | some k =>
          refine .inr fun e => ?_
          have h1 := HG.out k e.symm
          have h2 := HO3.out.lt k hv
          omega
    have HOW : Hid (W.drew.ownsRow w.heap.size 3 1 v1 (dealsL d).length ((dealsL d).map (Value.int .i64))) := by rw [hW]; exact (HO13.out.alloc _).drew
    have HBW : Hid (Below w.heap.size w W.drew) := by rw [hW]; exact (HB3.out.alloc HB3.out.size _).drew
    have hcell : W.cell? ⟨w3.heap.size, 0, none⟩ = some (.slice ad3 n3 cap3) := by rw [hW]; simp
    clear hW HO3 HO13
    go_region_with (first | (go_at_call 40; refine (delete_own (dealsL d) o v1 (.slice ad3 n3 cap3) w3.heap.size w.heap.size _ W.drew rfl (by have := HDL.out; omega) (by have := HN3.out; omega) HOW.out HB.out).mono ?_; rintro e w' ⟨v', rfl, hrow', hgr'⟩; have hcell' := (HB.out w' hgr').1) | (go_at_call 39; refine (weave_any o _ _ _ _ (HB.out w' hgr').2 hrow' (by have := HN3.out; omega) (by have h1 := List.length_filter_le (fun x => !inB o x) (dealsL d); have := HDL.out; omega)).mono ?_; rintro e w'' ⟨v'', rfl, hI'', hb''⟩))
    all_goals
      go_wp2
      go_ret2
      have hbb : Below w.heap.size w w' := HBW.out.grown hgr' HBW.out.size (fun m hm => (HG.out m hm).1)
      exact ⟨.inl ⟨_, _, HQ.out, rfl, hI''⟩, hbb.trans (hb''.mono hbb.size)⟩
  · have HQ : Hid (serOrd d = none) := by show serOrd d = none; unfold serOrd; rw [ho]; rfl
    clear ho
    go_wp2_with fail
    go_ret2
    exact ⟨.inr ⟨HQ.out, rfl⟩, hb03.alloc hb03.size _⟩
end Go.Proofs.YtjaeaanpbdmfgabGreatDoor

namespace Go.Proofs.YtjaeaanpbdmfgabGreatDoor
open Go.RowKit

theorem refTx_any (t : Int) (w : World) : Calls Tryz.prog 53 #[.int .i64 t] w fun e w' => e = .returned (.bool (decide (1 ≤ t) && decide (t ≤ 6))) ∧ w' = w := by
  by_cases h : 1 ≤ t
  · go_enter Tryz.func53, Tryz.ntmps53
    go_wp2
    go_ret
    exact ⟨ret_bool (by simp [h]), rfl⟩
  · go_enter Tryz.func53, Tryz.ntmps53
    go_wp2
    go_ret
    exact ⟨ret_bool (by simp; omega), rfl⟩
theorem isOp_cases {t a i : Int} (h : isOpB (t, a, i) = false) : (decide (1 ≤ t) && decide (t ≤ 6)) = false ∨ ((decide (1 ≤ t) && decide (t ≤ 6)) = true ∧ (a < 1 ∨ (1 ≤ a ∧ 4 < a) ∨ (1 ≤ a ∧ a ≤ 4 ∧ 3 ≤ a ∧ i ≠ 0) ∨ (1 ≤ a ∧ a < 3 ∧ i < 1) ∨ (1 ≤ a ∧ a < 3 ∧ 1 ≤ i ∧ 6 < i))) := by
  cases hq : (decide (1 ≤ t) && decide (t ≤ 6)) with
  | false => exact .inl rfl
  | true =>
    refine .inr ⟨rfl, ?_⟩
    simp at hq
    by_cases h1 : a < 1
    · exact .inl h1
    · by_cases h2 : 4 < a
      · exact .inr (.inl ⟨by omega, h2⟩)
      · by_cases h3 : 3 ≤ a
        · refine .inr (.inr (.inl ⟨by omega, by omega, h3, fun h0 => ?_⟩))
          have he : endsB a = true := by
            rcases (show a = 3 ∨ a = 4 by omega) with rfl | rfl <;> rfl
          simp [isOpB, he, h0] at h; omega
        · have he : endsB a = false := by
            rcases (show a = 1 ∨ a = 2 by omega) with rfl | rfl <;> rfl
          by_cases h4 : i < 1
          · exact .inr (.inr (.inr (.inl ⟨by omega, by omega, h4⟩)))
          · refine .inr (.inr (.inr (.inr ⟨by omega, by omega, by omega, ?_⟩)))
            simp [isOpB, he] at h; omega
theorem isOp_good {t a i : Int} (h : isOpB (t, a, i) = true) : (decide (1 ≤ t) && decide (t ≤ 6)) = true ∧ 1 ≤ a ∧ a ≤ 4 ∧ ((3 ≤ a ∧ i = 0) ∨ (a < 3 ∧ 1 ≤ i ∧ i ≤ 6)) := by
  simp [isOpB] at h
  obtain ⟨⟨⟨⟨h1, h2⟩, h3⟩, h4⟩, h5⟩ := h
  refine ⟨by simp; omega, by omega, by omega, ?_⟩
  by_cases ha : 3 ≤ a
  · have he : endsB a = true := by rcases (show a = 3 ∨ a = 4 by omega) with rfl | rfl <;> rfl
    simp [he] at h5
    exact .inl ⟨ha, h5⟩
  · have he : endsB a = false := by rcases (show a = 1 ∨ a = 2 by omega) with rfl | rfl <;> rfl
    simp [he] at h5
    exact .inr ⟨by omega, h5.1, h5.2⟩
theorem ret_two {x y a b : Int} (h : x = y) (h2 : a = b) : Ending.returned (.tuple #[.int .i64 x, .int .i64 a]) = .returned (.tuple #[.int .i64 y, .int .i64 b]) := by rw [h, h2]
theorem endedIn_drop {l : List Op3} {j : Nat} {o : Op3} (ht : l.take (j + 1) = l.take j ++ [o]) (t : Int) : endedIn (l.take (j + 1)) t = (endedIn (l.take j) t || (o.1 == t && endsB o.2.1)) := by
  rw [ht, endedIn_snoc]
theorem endedIn_mono {l : List Op3} {j k : Nat} (h : j ≤ k) (t : Int) (he : endedIn (l.take j) t = true) : endedIn (l.take k) t = true := by
  simp only [endedIn, List.any_eq_true] at he ⊢
  obtain ⟨o, ho, h2⟩ := he
  have : l.take j = (l.take k).take j := by rw [List.take_take, Nat.min_eq_left h]
  rw [this] at ho
  exact ⟨o, List.mem_of_mem_take ho, h2⟩

set_option maxHeartbeats 8000000 in
set_option maxRecDepth 100000 in
theorem refHistory_any (l : List Op3) (v : Value) (w : World) (hI : IsOps w v l) :
    Calls Tryz.prog 26 #[v] w fun e w' => e = .returned (.tuple #[.int .i64 (chk l).1, .int .i64 (chk l).2]) ∧ Below w.heap.size w w' := by
  obtain ⟨ad, b, off, cap, rfl, ha, _, hbB, hops⟩ := hI
  by_cases h40 : 40 < l.length
  · have HC : Hid (chk l = (0, 4)) := by show chk l = (0, 4); unfold chk; rw [if_pos h40]
    clear ha hbB hops
    go_enter Tryz.func26, Tryz.ntmps26
    go_wp2
    go_ret2
    exact ⟨ret_two (by rw [HC.out]; rfl) (by rw [HC.out]), Below.refl _ _⟩
  · have HC : Hid (chk l = chkFrom [] l) := chk_short l (by omega)
    go_enter Tryz.func26, Tryz.ntmps26
    go_wp2
    go_loopw [4] (fun v4 wr => ∃ k : Nat, k ≤ l.length ∧ v4 = .int .i64 k ∧ chkFrom (l.take k) (l.drop k) = chk l ∧ (∀ o ∈ l.take k, isOpB o = true) ∧ Below w.heap.size w wr) (fun v4 _ => l.length - (intOf v4).toNat)
    case atStart => exact ⟨0, Nat.zero_le _, rfl, by rw [HC.out]; simp, fun o ho => (by simp at ho), Below.refl _ _⟩
    case round =>
      obtain ⟨k, hk, rfl, hck, hgood, hbel⟩ := hrel
      have HK : Hid (chkFrom (l.take k) (l.drop k) = chk l) := hck
      have HG : Hid (∀ o ∈ l.take k, isOpB o = true) := hgood
      clear hck hgood
      have hsz := hbel.size
      by_cases hlt : k < l.length
      · obtain rfl := ha (by omega)
        have hb1 : b < w.heap.size := by
          rcases hbB with h | h
          · exact h
          · subst h; simp at hlt
        have HO : Hid (OpsAt wr b off l) := hops.below hbel hbB
        obtain ⟨c0, c1, c2⟩ := HO.out k hlt
        obtain ⟨⟨t, a, i⟩, ho⟩ : ∃ o : Op3, l.getD k (0, 0, 0) = o := ⟨_, rfl⟩
        rw [ho] at c0 c1 c2
        have HD : Hid (l.drop k = (t, a, i) :: l.drop (k + 1)) := by
          show l.drop k = (t, a, i) :: l.drop (k + 1)
          rw [← ho]; simp [List.getD, List.getElem?_eq_getElem hlt]
        have HT : Hid (l.take (k + 1) = l.take k ++ [(t, a, i)]) := by
          show l.take (k + 1) = l.take k ++ [(t, a, i)]
          rw [List.take_succ_eq_append_getElem hlt, ← ho]; simp [List.getD, List.getElem?_eq_getElem hlt]
        clear ho hops ha hbB
        simp only at c0 c1 c2
        cases hop : isOpB (t, a, i) with
        | false =>
          have HR : Hid (chk l = (k, 1)) := chk_at1 hlt HK.out HD.out hop
          rcases isOp_cases hop with hq | ⟨hq, h1 | ⟨h1, h2⟩ | ⟨h1, h2, h3, h4⟩ | ⟨h1, h2, h3⟩ | ⟨h1, h2, h3, h4⟩⟩
          all_goals
            first
            | have hne : (i != 0) = true := by simpa using h4
              clear h4
            | skip
            clear hop
            go_wp2_with (go_at_call 53; refine (refTx_any _ _).mono ?_; rintro e w2 ⟨rfl, hw2⟩; subst hw2)
            go_ret2
            exact ⟨ret_two (by rw [HR.out]) (by rw [HR.out]), hbel.alloc (by omega) _⟩
        | true =>
          obtain ⟨hq, h1, h2, h3⟩ := isOp_good hop
          have HOP : Hid (isOpB (t, a, i) = true) := hop
          clear hop
          obtain ⟨W0, hW0⟩ : ∃ x : World, x = wr := ⟨_, rfl⟩
          subst hW0
          rcases h3 with ⟨h3, h4⟩ | ⟨h3, h4, h5⟩
          all_goals
            first
            | have hne : (i != 0) = false := by simpa using h4
              clear h4
            | skip
            go_wp2_with (go_at_call 53; refine (refTx_any _ _).mono ?_; rintro e w2 ⟨rfl, hw2⟩; subst hw2)
            go_loopw [7] (fun v7 wi => ∃ (j n : Nat), j ≤ k ∧ v7 = .int .i64 j ∧ endedIn (l.take j) t = false ∧ wi = (W0.alloc (.cells #[.int .i64 t, .int .i64 a, .int .i64 i] 37)).drewN n) (fun v7 _ => k - (intOf v7).toNat)
            case atStart => exact ⟨0, 0, Nat.zero_le _, rfl, by simp [endedIn], rfl⟩
            case round =>
              obtain ⟨j, n, hj, rfl, hen, hwi⟩ := hrel
              subst hwi
              have HEN : Hid (endedIn (l.take j) t = false) := hen
              clear hen
              by_cases hjk : j < k
              · obtain ⟨d0, d1, d2⟩ := HO.out j (by omega)
                obtain ⟨⟨t', a', i'⟩, ho⟩ : ∃ o : Op3, l.getD j (0, 0, 0) = o := ⟨_, rfl⟩
                rw [ho] at d0 d1 d2
                have HTJ : Hid (l.take (j + 1) = l.take j ++ [(t', a', i')]) := by
                  show l.take (j + 1) = l.take j ++ [(t', a', i')]
                  rw [List.take_succ_eq_append_getElem (show j < l.length by omega), ← ho]; simp [List.getD, List.getElem?_eq_getElem (show j < l.length by omega)]
                have HAE : Hid (endsB a' = decide (3 ≤ a')) := by
                  have hm : (t', a', i') ∈ l.take k := by
                    have : (t', a', i') ∈ l.take (j + 1) := by rw [HTJ.out]; simp
                    have e : l.take (j + 1) = (l.take k).take (j + 1) := by rw [List.take_take, Nat.min_eq_left (by omega)]
                    rw [e] at this
                    exact List.mem_of_mem_take this
                  exact isOp_ends (HG.out _ hm)
                clear ho
                simp only at d0 d1 d2
                have hbW : b < W0.heap.size := by omega
                have hjl : (j : Int) < (l.length : Int) := by omega
                by_cases hx : t' = t
                · subst hx
                  by_cases h3' : 3 ≤ a'
                  · have HE : Hid (endedIn (l.take k) t' = true) := endedIn_mono (show j + 1 ≤ k by omega) t' (by rw [endedIn_drop HTJ.out, HAE.out]; simp [h3'])
                    have HR : Hid (chk l = (k, 6)) := chk_at2 hlt HK.out HD.out HOP.out HE.out
                    go_wp2_with fail
                    go_quiet (fail)
                    go_wp2
                    go_ret2
                    exact ⟨ret_two (by rw [HR.out]) (by rw [HR.out]), below_drewN (below_drewN (hbel.alloc (by omega) _) _) _⟩
                  · have HE : Hid (endedIn (l.take (j + 1)) t' = false) := by show endedIn (l.take (j + 1)) t' = false; rw [endedIn_drop HTJ.out, HEN.out, HAE.out]; simp [h3']
                    go_wp2_with fail
                    go_quiet (fail)
                    go_wp2
                    go_roundw
                    case rel => exact ⟨j + 1, n + nq, by omega, by go_num, HE.out, rfl⟩
                    case measure => simp [intOf]; omega
                · have hx' : (t' == t) = false := by simpa using hx
                  have HE : Hid (endedIn (l.take (j + 1)) t = false) := by show endedIn (l.take (j + 1)) t = false; rw [endedIn_drop HTJ.out, HEN.out, hx']; simp
                  go_wp2_with fail
                  go_quiet (fail)
                  go_wp2
                  go_roundw
                  case rel => exact ⟨j + 1, n + nq, by omega, by go_num, HE.out, rfl⟩
                  case measure => simp [intOf]; omega
              · have HJ : Hid (j = k) := by show j = k; omega
                have HEK : Hid (endedIn (l.take k) t = false) := by show endedIn (l.take k) t = false; rw [← HJ.out]; exact HEN.out
                clear HEN
                go_wp2
                go_roundw
                case rel => exact ⟨k + 1, by omega, by go_num, chk_step HK.out HD.out HT.out HOP.out HEK.out, fun o hm => (by rw [HT.out] at hm; rcases List.mem_append.1 hm with h | h; exact HG.out o h; simp at h; subst h; exact HOP.out), below_drewN (hbel.alloc (by omega) _) _⟩
                case measure => simp [intOf]; omega
      · go_wp2
        go_ret2
        have hres := chk_end (by omega) HK.out
        exact ⟨ret_two (by rw [hres]; rfl) (by rw [hres]), hbel⟩
theorem refRight_any (l : List Op3) (v : Value) (w : World) (hI : IsOps w v l) :
    Calls Tryz.prog 5 #[v] w fun e w' => e = .returned (.int .i64 (chk l).2) ∧ Below w.heap.size w w' := by
  go_enter Tryz.func5, Tryz.ntmps5
  go_wp2_with (go_at_call 26; refine (refHistory_any l v _ hI).mono ?_; rintro e w1 ⟨rfl, hb1⟩)
  go_ret
  exact ⟨rfl, hb1⟩
end Go.Proofs.YtjaeaanpbdmfgabGreatDoor
