/-
  PROVED HERE: laneref1.Sort, at a rising list of deals that holds all deals that right edges name, gives the order, the least that could be next first, and tells where there is none. Old memory stays as it was.
  Conditions: none.
-/
import Derived.Test.YtmjjiehnjghndaaDoorRefIn
import Derived.Test.YtmjjiehnjghndaaDoorMgal
import Derived.Test.YtmjjiehnjghndaaDoorGraphOrder
namespace Go.Proofs.YtmjjiehnjghndaaDoor
open Go.RowKit

theorem any_snoc2 {q : Edge2 → Bool} {l : List Edge2} {k : Nat} (hk : k < l.length) : (l.take (k + 1)).any q = ((l.take k).any q || q (l.getD k (0, 0))) := by
  rw [List.take_succ_eq_append_getElem hk, List.any_append]
  simp [List.getD, List.getElem?_eq_getElem hk]
theorem any_take {q : Edge2 → Bool} {l : List Edge2} {k : Nat} (h : (l.take k).any q = true) : l.any q = true := by
  obtain ⟨e, he, h2⟩ := List.any_eq_true.1 h
  exact List.any_eq_true.2 ⟨e, List.mem_of_mem_take he, h2⟩
theorem firstD_nextD {d : List Int} {l : List Edge2} (hr : Right l) (hrise : d.Pairwise (· < ·)) (hdeal : ∀ x ∈ d, 1 ≤ x ∧ x ≤ 6) (out : List Int) : firstD d l out d.length = (nextN l (leftS d out) : Int) := by
  unfold firstD
  rw [List.take_length]
  have hnot : ∀ j : Nat, (j : Int) ∉ d → freeB l (leftS d out) j = false := fun j hj => by
    unfold freeB leftS
    rw [inB_not.2 hj]; rfl
  cases hf : d.find? (okD d l out) with
  | none =>
    have h1 := List.find?_eq_none.1 hf
    rw [next_none fun j _ _ => ?_]
    · rfl
    · by_cases hj : (j : Int) ∈ d
      · rw [← ok_free hr _ _ _ hj]
        simpa using h1 _ hj
      · exact hnot j hj
  | some x =>
    obtain ⟨hx, pa, pb, hsplit, hno⟩ := List.find?_eq_some_iff_append.1 hf
    have hxm : x ∈ d := by rw [hsplit]; simp
    have hd := hdeal x hxm
    obtain ⟨t, rfl⟩ : ∃ t : Nat, x = t := ⟨x.toNat, by omega⟩
    rw [next_hit (t := t) (by omega) (by omega) (by rw [← ok_free hr _ _ _ hxm]; exact hx) fun j hj1 hj => ?_]
    · rfl
    · by_cases hjm : (j : Int) ∈ d
      · have hja : (j : Int) ∈ pa := by
          have hj2 := hjm
          rw [hsplit] at hj2
          rcases List.mem_append.1 hj2 with h | h
          · exact h
          · rw [hsplit] at hrise
            have h2 := (List.pairwise_append.1 hrise).2.1
            rcases List.mem_cons.1 h with h | h
            · have : j = t := by omega
              omega
            · have := (List.pairwise_cons.1 h2).1 _ h
              omega
        have := hno _ hja
        rw [← ok_free hr _ _ _ hjm]
        simpa using this
      · exact hnot j hjm
theorem cnt_left {d : List Int} (hrise : d.Pairwise (· < ·)) (hdeal : ∀ x ∈ d, 1 ≤ x ∧ x ≤ 6) : cntS (leftS d []) = d.length := by
  have h1 : leftS d [] = setOf (d.map Int.toNat) := by
    funext t
    rw [Bool.eq_iff_iff, setOf_iff, List.mem_map]
    unfold leftS
    rw [inB_not.2 (by simp : (t : Int) ∉ ([] : List Int)), Bool.not_false, Bool.and_true, inB_iff]
    constructor
    · intro h; exact ⟨_, h, by simp⟩
    · rintro ⟨x, hx, rfl⟩
      have := hdeal x hx
      rw [Int.toNat_of_nonneg (by omega)]; exact hx
  rw [h1, nodup_short, List.length_map]
  · rw [List.nodup_iff_pairwise_ne, List.pairwise_map]
    refine List.Pairwise.imp_of_mem (fun {a b} ha hb hab => ?_) hrise
    have := hdeal a ha; have := hdeal b hb
    omega
  · intro k hk
    obtain ⟨x, hx, rfl⟩ := List.mem_map.1 hk
    have := hdeal x hx
    omega

set_option maxHeartbeats 8000000 in
set_option maxRecDepth 100000 in
theorem sortd_any (d : List Int) (l : List Edge2) (u v : Value) (w : World) (hD : IsInts w u d) (hE : IsEdges w v l) (hc : gchk l = 0) (hrise : d.Pairwise (· < ·)) (hdeal : ∀ x ∈ d, 1 ≤ x ∧ x ≤ 6) (hin : ∀ e ∈ l, e.1 ∈ d) :
    Calls Tryd.prog 15 #[u, v] w fun e w' => ((∃ o v', sortD d l = some o ∧ e = .returned (.tuple #[v', .bool true]) ∧ IsInts w' v' o ∧ o.length ≤ 7) ∨ (sortD d l = none ∧ e = .returned (.tuple #[.slice none 0 0, .bool false]))) ∧ Below w.heap.size w w' := by
  have hl := gchk_len hc
  have HR : Hid (Right l) := gchk_deal hc
  have HRISE : Hid (d.Pairwise (· < ·) ∧ (∀ y ∈ d, 1 ≤ y)) := ⟨hrise, fun y hy => (hdeal y hy).1⟩
  have HCN : Hid (cntS (leftS d []) = d.length) := cnt_left hrise hdeal
  have HFN : Hid (∀ out, firstD d l out d.length = (nextN l (leftS d out) : Int)) := firstD_nextD HR.out hrise hdeal
  have HIN : Hid (∀ e ∈ l, inB d e.1 = true) := fun e he => inB_iff.2 (hin e he)
  have hd7 : d.length ≤ 7 := by rw [← HCN.out]; exact cnt_le _
  have HDI : Hid (∀ W, Below w.heap.size w W → IsInts W u d) := fun W hW => hD.below hW (Nat.le_refl _)
  obtain ⟨adu, bu, offu, capu, rfl, hau, -, hbu, hcu⟩ := hD
  have HU : Hid (∀ W, Below w.heap.size w W → ∀ k, k < d.length → adu = some ⟨bu, offu, none⟩ ∧ W.cell? ⟨bu, offu + k, none⟩ = some (.int .i64 (d.getD k 0))) := fun W hW k hk => by
    have hb : bu < w.heap.size := by
      rcases hbu with h | h
      · exact h
      · subst h; simp at hk
    exact ⟨hau (by omega), (hW.cell (p := ⟨bu, offu + k, none⟩) hb).trans (hcu k hk)⟩
  obtain ⟨ad, b, off, cap, rfl, ha, -, hbB, hops⟩ := hE
  have HE : Hid (∀ W, Below w.heap.size w W → ∀ k, k < l.length → ad = some ⟨b, off, none⟩ ∧ W.cell? ⟨b, off + k * 2, none⟩ = some (.int .i64 (l.getD k (0, 0)).1) ∧ W.cell? ⟨b, off + k * 2 + 1, none⟩ = some (.int .i64 (l.getD k (0, 0)).2)) := fun W hW k hk => ⟨ha (by omega), (hops.below hW hbB) k hk⟩
  obtain ⟨i0, hi, hz0, hs0, hy0⟩ := info_parts infoInt
  have HT : Hid (Tryd.prog.info? 3 = some i0 ∧ i0.zero = some (.int .i64 0) ∧ i0.size = 1 ∧ i0.bytes = 8) := ⟨hi, hz0, hs0, hy0⟩
  clear hi hz0 hs0 hy0 hau hbu hcu ha hbB hops hc hrise hdeal hin
  go_enter Tryd.func15, Tryd.ntmps15
  go_wp2_with fail
  go_loopw [6] (fun v6 wr => ∃ (n : Nat) (out : List Int), cntS (leftS d out) ≤ n ∧ sortD d l = orderGo l n (leftS d out) out ∧ cntS (leftS d out) + out.length = d.length ∧ wr.ownsRow w.heap.size 3 1 v6 out.length (out.map (Value.int .i64)) ∧ Below w.heap.size w wr) (fun v6 _ => 8 - sliceN v6)
  case atStart => exact ⟨7, [], cnt_le _, rfl, by rw [HCN.out]; rfl, World.ownsRow_nil _ _ _ _, Below.refl _ _⟩
  case round =>
    obtain ⟨WR, hWR⟩ : ∃ W : World, W = wr := ⟨_, rfl⟩
    subst hWR
    obtain ⟨n, out, hn, ho, hlen, hown, hbel⟩ := hrel
    have HN : Hid (cntS (leftS d out) ≤ n ∧ sortD d l = orderGo l n (leftS d out) out ∧ cntS (leftS d out) + out.length = d.length) := ⟨hn, ho, hlen⟩
    have HSL : Hid (sliceN u6 = out.length) := own_len hown
    have HOI : Hid (IsInts WR u6 out) := isInts_own hown rfl
    have hol : out.length ≤ 7 := by omega
    obtain ⟨ad6, cap6, hv6⟩ : ∃ ad cap, u6 = .slice ad out.length cap := by
      obtain ⟨_, ⟨h1, h2⟩ | ⟨g, c, cur, h1, _⟩⟩ := hown
      · exact ⟨none, 0, by rw [h1, h2]⟩
      · exact ⟨_, c, h1⟩
    subst hv6
    have HOWN : Hid (WR.ownsRow w.heap.size 3 1 (.slice ad6 out.length cap6) out.length (out.map (Value.int .i64))) := hown
    obtain ⟨on, hon⟩ : ∃ on, out.length = on := ⟨_, rfl⟩
    have HON : Hid (out.length = on) := hon
    obtain ⟨dn, hdn⟩ : ∃ dn, d.length = dn := ⟨_, rfl⟩
    have HDN : Hid (d.length = dn) := hdn
    rw [hon] at HN HSL HOWN HOI hol ⊢
    rw [hdn] at HN HDI hd7 ⊢
    have hsz := hbel.size
    clear hn ho hlen hown hon hdn
    by_cases hlt : on < dn
    · have HA : Hid (anyS (leftS d out) = true) := by
        show anyS (leftS d out) = true
        cases h : anyS (leftS d out) with
        | true => rfl
        | false => have := any_cnt h; have := HN.out.2.2; omega
      have hlt' : (on : Int) < (dn : Int) := by omega
      go_wp2_with fail
      go_loopw [7, 8] (fun v7 v8 wx => ∃ k : Nat, k ≤ dn ∧ v8 = .int .i64 k ∧ v7 = .int .i64 (firstD d l out k) ∧ wx = WR) (fun _ v8 _ => dn - (intOf v8).toNat)
      case atStart => exact ⟨0, Nat.zero_le _, rfl, by rw [firstD_zero], rfl⟩
      case round =>
        obtain ⟨k, hk, rfl, rfl, hwx⟩ := hrel
        rw [hwx]
        clear hwx
        obtain ⟨bf, hbf⟩ : ∃ bf, firstD d l out k = bf := ⟨_, rfl⟩
        have HBF : Hid (firstD d l out k = bf) := hbf
        rw [hbf]
        clear hbf
        by_cases hkd : k < dn
        · have hkd' : (k : Int) < (dn : Int) := by omega
          obtain ⟨hadr, c0⟩ := HU.out WR hbel k (by rw [HDN.out]; exact hkd)
          subst hadr
          obtain ⟨x, hx⟩ : ∃ x, d.getD k 0 = x := ⟨_, rfl⟩
          rw [hx] at c0
          have HS : Hid (firstD d l out (k + 1) = if okD d l out x = true ∧ (bf = 0 ∨ x < bf) then x else bf) := by
            have h1 := firstD_succ (d := d) (l := l) (out := out) (k := k) (x := x) (by rw [← hx]; have := HDN.out; simp [List.getD, List.getElem?_eq_getElem (show k < d.length by omega)]) HRISE.out.1 HRISE.out.2
            rw [HBF.out] at h1
            exact h1
          clear hx
          go_wp2_with fail
          refine (in_any out _ x _ HOI.out (by have := HON.out; omega)).mono ?_
          rintro e wx ⟨rfl, hwx⟩
          rw [hwx]; clear hwx
          go_wp2_with fail
          go_loopw [10, 11] (fun v10 v11 wx => ∃ (j : Nat) (ob : Bool), j ≤ l.length ∧ v11 = .int .i64 j ∧ v10 = .bool ob ∧ ob = (!inB out x && !(l.take j).any (blockB d out x)) ∧ wx = WR) (fun _ v11 _ => l.length - (intOf v11).toNat)
          case atStart => exact ⟨0, _, Nat.zero_le _, rfl, rfl, by simp, rfl⟩
          case round =>
            obtain ⟨j, ob, hj, rfl, rfl, hob, hwx⟩ := hrel
            rw [hwx]
            clear hwx
            have HOB : Hid (ob = (!inB out x && !(l.take j).any (blockB d out x))) := hob
            clear hob
            by_cases hjl : j < l.length
            · have hjl' : (j : Int) < (l.length : Int) := by omega
              cases ob with
              | false =>
                have HOK : Hid (okD d l out x = false) := by
                  show okD d l out x = false
                  have h1 := HOB.out
                  unfold okD
                  cases hq : inB out x with
                  | true => rfl
                  | false =>
                    rw [hq] at h1
                    have h2 : (l.take j).any (blockB d out x) = true := by simpa using h1.symm
                    rw [any_take h2]; rfl
                obtain ⟨ob, hob⟩ : ∃ ob, false = ob := ⟨_, rfl⟩
                have HB : Hid (firstD d l out (k + 1) = bf) := by
                  show firstD d l out (k + 1) = bf
                  rw [HS.out, HOK.out, if_neg (fun h => by cases h.1)]
                clear hob ob
                go_wp2_with fail
                go_roundw
                case rel => exact ⟨k + 1, by omega, by go_num, by rw [HB.out], trivial⟩
                case measure => simp [intOf]; omega
              | true =>
                obtain ⟨hadr, e0, e1⟩ := HE.out WR hbel j hjl
                subst hadr
                obtain ⟨⟨f, t⟩, hft⟩ : ∃ e : Edge2, l.getD j (0, 0) = e := ⟨_, rfl⟩
                rw [hft] at e0 e1
                simp only at e0 e1
                have hmem : (f, t) ∈ l := by rw [← hft]; simp [List.getD, List.getElem?_eq_getElem hjl]
                have HIF : Hid (inB d f = true) := HIN.out _ hmem
                have HAN : Hid ((!inB out x && !(l.take (j + 1)).any (blockB d out x)) = !(t == x && !inB out f)) := by
                  show (!inB out x && !(l.take (j + 1)).any (blockB d out x)) = !(t == x && !inB out f)
                  have h1 : inB out x = false ∧ (l.take j).any (blockB d out x) = false := by simpa using HOB.out.symm
                  rw [any_snoc2 hjl, h1.1, h1.2, hft, Bool.not_false, Bool.true_and, Bool.false_or]
                  unfold blockB
                  rw [HIF.out, Bool.true_and]
                clear hft hmem HOB
                cases htx : (t == x) with
                | false =>
                  rw [htx] at HAN
                  go_wp2_with fail
                  go_roundw
                  case rel => exact ⟨j + 1, true, by omega, by go_num, rfl, by rw [HAN.out]; rfl, trivial⟩
                  case measure => simp [intOf]; omega
                | true =>
                  rw [htx] at HAN
                  go_wp2_with fail
                  refine (in_any d _ f _ (HDI.out WR hbel) (by have := HDN.out; omega)).mono ?_
                  rintro e wx ⟨rfl, hwx⟩
                  rw [hwx, HIF.out]; clear hwx
                  go_wp2_with fail
                  refine (in_any out _ f _ HOI.out (by have := HON.out; omega)).mono ?_
                  rintro e wx ⟨rfl, hwx⟩
                  rw [hwx]; clear hwx
                  cases hio : inB out f with
                  | true =>
                    rw [hio] at HAN
                    go_wp2_with fail
                    go_roundw
                    case rel => exact ⟨j + 1, true, by omega, by go_num, rfl, by rw [HAN.out]; rfl, trivial⟩
                    case measure => simp [intOf]; omega
                  | false =>
                    rw [hio] at HAN
                    go_wp2_with fail
                    go_roundw
                    case rel => exact ⟨j + 1, false, by omega, by go_num, rfl, by rw [HAN.out]; rfl, trivial⟩
                    case measure => simp [intOf]; omega
            · have hjl' : ¬ (j : Int) < (l.length : Int) := by omega
              have HOK : Hid (okD d l out x = ob) := by
                show okD d l out x = ob
                rw [HOB.out, List.take_of_length_le (by omega)]; rfl
              clear HOB
              cases ob with
              | false =>
                have HB : Hid (firstD d l out (k + 1) = bf) := by
                  show firstD d l out (k + 1) = bf
                  rw [HS.out, HOK.out, if_neg (fun h => by cases h.1)]
                go_wp2_with fail
                go_roundw
                case rel => exact ⟨k + 1, by omega, by go_num, by rw [HB.out], trivial⟩
                case measure => simp [intOf]; omega
              | true =>
                by_cases h0 : bf = 0
                · have HB : Hid (firstD d l out (k + 1) = x) := by
                    show firstD d l out (k + 1) = x
                    rw [HS.out, HOK.out, if_pos ⟨rfl, .inl h0⟩]
                  have h0' : (bf == 0) = true := by simpa using h0
                  clear h0
                  go_wp2_with fail
                  go_roundw
                  case rel => exact ⟨k + 1, by omega, by go_num, by rw [HB.out], trivial⟩
                  case measure => simp [intOf]; omega
                · have h0' : (bf == 0) = false := by simpa using h0
                  by_cases h1 : x < bf
                  · have HB : Hid (firstD d l out (k + 1) = x) := by
                      show firstD d l out (k + 1) = x
                      rw [HS.out, HOK.out, if_pos ⟨rfl, .inr h1⟩]
                    clear h0
                    go_wp2_with fail
                    go_roundw
                    case rel => exact ⟨k + 1, by omega, by go_num, by rw [HB.out], trivial⟩
                    case measure => simp [intOf]; omega
                  · have HB : Hid (firstD d l out (k + 1) = bf) := by
                      show firstD d l out (k + 1) = bf
                      rw [HS.out, HOK.out, if_neg (fun h => by rcases h.2 with h2 | h2; exact h0 h2; exact h1 h2)]
                    clear h0
                    go_wp2_with fail
                    go_roundw
                    case rel => exact ⟨k + 1, by omega, by go_num, by rw [HB.out], trivial⟩
                    case measure => simp [intOf]; omega
        · have hkd' : ¬ (k : Int) < (dn : Int) := by omega
          have HBN : Hid (bf = (nextN l (leftS d out) : Int)) := by
            show bf = _
            rw [← HFN.out out, ← HBF.out, HDN.out, show k = dn by omega]
          obtain ⟨t, ht⟩ : ∃ t, nextN l (leftS d out) = t := ⟨_, rfl⟩
          have hbt : bf = (t : Int) := by rw [HBN.out, ht]
          subst hbt
          have hnc := next_cases l (leftS d out)
          by_cases h0 : t = 0
          · have HQ : Hid (sortD d l = none) := by show sortD d l = none; rw [HN.out.2.1, orderGo_stop HN.out.1 HA.out (ht.trans h0)]
            subst h0
            clear hnc ht
            go_wp2_with fail
            go_ret2
            exact ⟨.inr ⟨HQ.out, rfl⟩, hbel⟩
          · have HQ : Hid (sortD d l = orderGo l (n - 1) (leftS d (out ++ [(t : Int)])) (out ++ [(t : Int)])) := by
              show sortD d l = _
              rw [HN.out.2.1, orderGo_on HN.out.1 HA.out (by rw [ht]; exact h0), leftS_next, ht]
            rw [ht] at hnc
            have HCT : Hid (cntS (leftS d (out ++ [(t : Int)])) + 1 = cntS (leftS d out)) := by
              rcases hnc with ⟨h1, _⟩ | ⟨h1, h2, h3, _⟩
              · exact absurd h1 h0
              · rw [leftS_next]
                exact cnt_set (by omega) (free_parts h3).1
            have h0' : ((t : Int) == 0) = false := by simpa using h0
            clear hnc ht h0
            go_wp2_with (at_builtin; refine wpList_append_own _ rfl (.tmp 79) (.tmp 81) 26 rfl w.heap.size 3 i0 (.int .i64 0) 1 8 Tryd.underlying26 HT.out.1 HT.out.2.1 HT.out.2.2.1 HT.out.2.2.2 rfl (by decide) (.slice ad6 on cap6) on (out.map (Value.int .i64)) rfl (HOWN.out.alloc _) ⟨WR.heap.size, 0, none⟩ 1 1 [.int .i64 (t : Int)] rfl rfl (cell_one_new _ _ _) (by simp [Value.oneCell']) (by unfold maxLen; omega) (by omega) (by simp; omega) ?_; intro v1 w1 hown1 hgr1 hnil1)
            have hB1 := (hbel.alloc hsz _).grown hgr1 (by simp; omega) (fun m hm => (HOWN.out.lt m hm).1)
            have hl1 := own_len hown1
            refine ⟨⟨n - 1, out ++ [(t : Int)], ?_, HQ.out, ?_, ?_, hB1⟩, ?_⟩
            · have := HCT.out; have := HN.out.1; omega
            · have := HCT.out; have := HN.out.2.2; have := HON.out; have := HDN.out; simp; omega
            · have := HON.out; simpa [this] using hown1
            · rw [hl1]; show 8 - (on + 1) < 8 - sliceN (Value.slice ad6 on cap6); show 8 - (on + 1) < 8 - on; omega
    · have hlt' : ¬ (on : Int) < (dn : Int) := by omega
      have HQ : Hid (sortD d l = some out) := by
        show sortD d l = some out
        rw [HN.out.2.1, orderGo_end]
        cases h : anyS (leftS d out) with
        | false => rfl
        | true => have := cnt_any h; have := HN.out.2.2; omega
      go_wp2_with fail
      go_ret2
      exact ⟨.inl ⟨out, HQ.out, _, rfl, HOI.out, by have := HON.out; omega⟩, hbel⟩
end Go.Proofs.YtmjjiehnjghndaaDoor
