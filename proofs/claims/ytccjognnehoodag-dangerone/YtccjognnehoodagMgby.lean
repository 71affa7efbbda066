/-
  PROVED HERE: package danger over a run of package course (as it lies in memory): all edges among deals, from one that read to one that wrote, by From, then To. Old memory stays as it was.
  Conditions: the deals are 1 to 6 and have begun, the lists are short; what slices.Sort does is a premise (SortC).
  PROVED HERE: slices.IndexFunc and slices.ContainsFunc of edges, for any closure; package danger: who is between, of edges that are told. Old memory stays as it was.
  Conditions: the lists are not too long; what the closure answers is a premise of the first two.
-/
import Derived.Test.YtccjognnehoodagMgbx
import Derived.Test.YtccjognnehoodagMgbp
import Derived.Test.YtccjognnehoodagMgaj
import Derived.Test.YtccjognnehoodagMgay
namespace Go.Proofs.Ytccjognnehoodag
open Go.RowKit

/-- What is still to be told in a round. -/
def restE (is : Int → Int → Bool) (ds : List Int) (x : Int) (r : List Int) (j : Nat) : List Edge2 := (((ds.drop j).filter (is x)).map fun y => (x, y)) ++ edgesG is ds r
theorem drop_getE {r : List Int} {j : Nat} (h : j < r.length) : r.drop j = r.getD j 0 :: r.drop (j + 1) := by rw [List.drop_eq_getElem_cons h]; simp [List.getD, List.getElem?_eq_getElem h]
theorem restE_end (is : Int → Int → Bool) (ds : List Int) (x : Int) (r : List Int) : restE is ds x r ds.length = edgesG is ds r := by unfold restE; rw [List.drop_length]; rfl
theorem restE_hit {is : Int → Int → Bool} {ds : List Int} {x : Int} {r : List Int} {j : Nat} (h : j < ds.length) (hq : is x (ds.getD j 0) = true) (out : List Edge2) : (out ++ [(x, ds.getD j 0)]) ++ restE is ds x r (j + 1) = out ++ restE is ds x r j := by
  unfold restE
  rw [drop_getE h, List.filter_cons, if_pos hq]
  simp
theorem restE_miss {is : Int → Int → Bool} {ds : List Int} {x : Int} {r : List Int} {j : Nat} (h : j < ds.length) (hq : is x (ds.getD j 0) = false) : restE is ds x r (j + 1) = restE is ds x r j := by
  unfold restE
  rw [drop_getE h, List.filter_cons, if_neg (by rw [hq]; decide)]
theorem restE_first {is : Int → Int → Bool} {ds : List Int} {i : Nat} (h : i < ds.length) : restE is ds (ds.getD i 0) (ds.drop (i + 1)) 0 = edgesG is ds (ds.drop i) := by
  rw [drop_getE h]
  unfold restE
  rw [List.drop_zero, edgesG]
set_option maxHeartbeats 8000000 in
set_option maxRecDepth 100000 in
theorem edges_fn (hSort : SortC) {w0 w : World} {R : Nat} {S F : Value} {q : Crs} {c : CLay} (h : CrsAt w0 w R S F q c) (hq : CrsOk 1000 q) (es : List Int) (v : Value) (hI : IsInts w v es) (hel : es.length ≤ 1000) (hes : ∀ t ∈ es, 1 ≤ t ∧ t ≤ 6 ∧ (q.began t).isSome = true) :
    Calls Try.prog 34 #[.pointer (some ⟨R, 0, none⟩), v] w fun e w' => ∃ v', e = .returned v' ∧ IsEdges w' v' (edgQ q es) ∧ Below w.heap.size w w' := by
  have hI' := hI
  obtain ⟨ad0, b0, off0, cap0, rfl, -⟩ := hI'
  have HSO : Hid (Calls Try.prog 59 #[.func (.func 88) #[] #[.pointer (some ⟨w.heap.size, 0, none⟩)]] (w.alloc (.cells #[.slice ad0 es.length cap0] 25)) fun e w' => ∃ v, e = .returned v ∧ w'.ownsRow w.heap.size 3 1 v es.length ((sortI es).map (Value.int .i64)) ∧ Below w.heap.size w w') := sorted_fn hSort es ad0 es.length cap0 w hI rfl hel
  have HVA := hid_q (values_fn ad0 es.length cap0 w)
  unfold edgQ
  obtain ⟨ds, hds⟩ : ∃ ds, sortI es = ds := ⟨_, rfl⟩
  have hdl : ds.length = es.length := by rw [← hds]; exact (sortI_perm es).length_eq
  have HDS : Hid (∀ t ∈ ds, 1 ≤ t ∧ t ≤ 6 ∧ (q.began t).isSome = true) := fun t ht => hes t ((sortI_perm es).mem_iff.1 (by rw [hds]; exact ht))
  obtain ⟨n, hn⟩ : ∃ n, es.length = n := ⟨_, rfl⟩
  rw [hn] at hdl hel HSO HVA
  rw [hds] at HSO
  rw [hds, hn]
  have HG : Hid ((edgesG (edgB q) ds ds).length ≤ 1000000) := by
    show _ ≤ _
    refine Nat.le_trans (edgesG_len _ ds ds) ?_
    rw [hdl]
    exact Nat.mul_le_mul hel hel
  have HN := hid_q hdl
  have HL := hid_q h
  have HQ := hid_q hq
  have HT : Hid (∀ W, Below w.heap.size w W → ∀ a ∈ ds, ∀ b ∈ ds, Calls Try.prog 33 #[.pointer (some ⟨R, 0, none⟩), .int .i64 a, .int .i64 b] W fun e w' => e = .returned (.bool (isT q a b)) ∧ Below W.heap.size W w') := fun W hW a ha b hb =>
    once_crs (h.below hW) hq (HDS.out a ha).1 (HDS.out a ha).2.1 (HDS.out b hb).1 (HDS.out b hb).2.1 (HDS.out a ha).2.2 (HDS.out b hb).2.2
  have HV : Hid (∀ W, Below w.heap.size w W → ∀ a ∈ ds, ∀ b ∈ ds, Calls Try.prog 61 #[.pointer (some ⟨R, 0, none⟩), .int .i64 a, .int .i64 b] W fun e w' => e = .returned (.bool (overQ q a b)) ∧ Below W.heap.size W w') := fun W hW a ha b hb =>
    over_fn (h.below hW) hq (HDS.out a ha).1 (HDS.out a ha).2.1 (HDS.out b hb).1 (HDS.out b hb).2.1
  obtain ⟨i0, hi, hz0, hs0, hy0⟩ := info_parts infoEdge
  have HI : Hid (Try.prog.info? 50 = some i0 ∧ i0.zero = some (.agg #[.int .i64 0, .int .i64 0]) ∧ i0.size = 2 ∧ i0.bytes = 16) := ⟨hi, hz0, hs0, hy0⟩
  obtain ⟨is, his⟩ : ∃ is, edgB q = is := ⟨_, rfl⟩
  have HIS : Hid (∀ a b, is a b = ((a != b && isT q a b) && overQ q a b)) := fun a b => by rw [← his]; rfl
  rw [his] at HG ⊢
  clear hi hz0 hs0 hy0 h hq hI hds hn hes hdl his hSort
  go_enter Try.func34, Try.ntmps34
  go_wp2_with fail
  refine HVA.out.mono ?_
  rintro e w1 ⟨rfl, rfl⟩
  go_wp2_with fail
  refine HSO.out.mono ?_
  rintro e w1 ⟨v1, rfl, ho1, hb1⟩
  have HB1 := hid_q hb1
  have hI1 := isInts_own ho1 HN.out
  obtain ⟨ad, b, off, cap, rfl, ha, -, hbB, hc⟩ := hI1
  have HE : Hid (∀ W, Below w1.heap.size w1 W → ∀ k, k < n → ad = some ⟨b, off, none⟩ ∧ b < W.heap.size ∧ W.cell? ⟨b, off + k, none⟩ = some (.int .i64 (ds.getD k 0))) := fun W hW k hk => by
    have hk' : k < ds.length := by rw [HN.out]; exact hk
    have hb : b < w1.heap.size := by
      rcases hbB with h | h
      · exact h
      · rw [h] at hk'; simp at hk'
    exact ⟨ha (by omega), Nat.lt_of_lt_of_le hb hW.size, (hW.cell (p := ⟨b, off + k, none⟩) hb).trans (hc k hk')⟩
  rw [HN.out]
  clear ho1 hb1 ha hbB hc HSO HVA
  go_wp2_with fail
  go_loopw [6, 16] (fun v6 v16 wr => ∃ (i : Nat) (out : List Edge2), i ≤ n ∧ v16 = .int .i64 i ∧ wr.ownsRow w1.heap.size 50 2 v6 out.length (flatE out) ∧ out ++ edgesG is ds (ds.drop i) = edgesG is ds ds ∧ Below w1.heap.size w1 wr) (fun _ v16 _ => n - (intOf v16).toNat)
  case atStart => exact ⟨0, [], Nat.zero_le _, rfl, World.ownsRow_nil _ _ _ _, by rw [List.drop_zero]; rfl, Below.refl _ _⟩
  case round =>
    obtain ⟨i, out, hin, rfl, hown, hout, hbel⟩ := hrel
    have HOWN := hid_q hown
    have HOUT := hid_q hout
    have HB := hid_q hbel
    clear hown hout hbel
    by_cases hlt : i < n
    · have hlt' : (i : Int) < (n : Int) := by omega
      obtain ⟨rfl, hbw, e0⟩ := HE.out wr HB.out i hlt
      obtain ⟨x, hx⟩ : ∃ x, ds.getD i 0 = x := ⟨_, rfl⟩
      rw [hx] at e0
      have HX : Hid (x ∈ ds) := by show x ∈ ds; rw [← hx]; exact getD_memC (by rw [HN.out]; exact hlt)
      have HF : Hid (restE is ds x (ds.drop (i + 1)) 0 = edgesG is ds (ds.drop i)) := by show _ = _; rw [← hx]; exact restE_first (by rw [HN.out]; exact hlt)
      obtain ⟨WR, hWR⟩ : ∃ W : World, W = wr := ⟨_, rfl⟩
      subst hWR
      clear hx
      go_wp2_with fail
      go_loopw [6, 22] (fun v6 v22 wr => ∃ (j : Nat) (out : List Edge2), j ≤ n ∧ v22 = .int .i64 j ∧ wr.ownsRow w1.heap.size 50 2 v6 out.length (flatE out) ∧ out ++ restE is ds x (ds.drop (i + 1)) j = edgesG is ds ds ∧ Below w1.heap.size w1 wr) (fun _ v22 _ => n - (intOf v22).toNat)
      case atStart => exact ⟨0, out, Nat.zero_le _, rfl, HOWN.out, by rw [HF.out]; exact HOUT.out, HB.out⟩
      case round =>
        clear HOWN HOUT HB e0 hbw HF
        obtain ⟨j, out, hjm, rfl, hown, hout, hbel⟩ := hrel
        have HOWN := hid_q hown
        have HOUT := hid_q hout
        have HB := hid_q hbel
        have hol : out.length ≤ 1000000 := by
          have h1 := congrArg List.length hout
          have h2 := HG.out
          rw [List.length_append] at h1
          omega
        clear hown hout hbel
        by_cases hjl : j < n
        · have hjl' : (j : Int) < (n : Int) := by omega
          obtain ⟨-, hbw2, f0⟩ := HE.out wr HB.out j hjl
          obtain ⟨y, hy⟩ : ∃ y, ds.getD j 0 = y := ⟨_, rfl⟩
          rw [hy] at f0
          have HY : Hid (y ∈ ds) := by show y ∈ ds; rw [← hy]; exact getD_memC (by rw [HN.out]; exact hjl)
          have hjr : j < ds.length := by rw [HN.out]; exact hjl
          have HMS : Hid (is x y = false → out ++ restE is ds x (ds.drop (i + 1)) (j + 1) = edgesG is ds ds) := fun hq => by rw [restE_miss hjr (by rw [hy]; exact hq)]; exact HOUT.out
          have HHT : Hid (is x y = true → (out ++ [(x, y)]) ++ restE is ds x (ds.drop (i + 1)) (j + 1) = edgesG is ds ds) := fun hq => by rw [← HOUT.out, ← restE_hit hjr (by rw [hy]; exact hq) out, hy]
          have HBW : Hid (Below w.heap.size w wr) := HB1.out.trans (HB.out.mono HB1.out.size)
          clear hy hjr
          by_cases hxy : x = y
          · have HQ : Hid (out ++ restE is ds x (ds.drop (i + 1)) (j + 1) = edgesG is ds ds) := HMS.out (by rw [HIS.out, hxy]; simp)
            subst hxy
            go_wp2_with fail
            go_roundw
            case rel => exact ⟨j + 1, out, by omega, by go_num, HOWN.out, HQ.out, HB.out⟩
            case measure => simp [intOf]; omega
          · have hne : (x != y) = true := by simpa using hxy
            have HCT := hid_q (HT.out wr HBW.out x HX.out y HY.out)
            cases hT : isT q x y with
            | false =>
              have HQ : Hid (out ++ restE is ds x (ds.drop (i + 1)) (j + 1) = edgesG is ds ds) := HMS.out (by rw [HIS.out, hT]; simp)
              rw [hT] at HCT
              clear hT
              go_wp2_with fail
              refine HCT.out.mono ?_
              rintro e w2 ⟨rfl, hb2⟩
              have HB2 := hid_q hb2
              clear hb2
              go_wp2_with fail
              go_roundw
              case rel => exact ⟨j + 1, out, by omega, by go_num, (Turns.of_below (F := fun _ => False) HB2.out).own HOWN.out (fun _ _ hf => hf), HQ.out, HB.out.trans (HB2.out.mono HB.out.size)⟩
              case measure => simp [intOf]; omega
            | true =>
              rw [hT] at HCT
              have HTT := hid_q hT
              clear hT
              go_wp2_with fail
              refine HCT.out.mono ?_
              rintro e w2 ⟨rfl, hb2⟩
              have HB2 := hid_q hb2
              have HCV := hid_q (HV.out w2 (HBW.out.trans (hb2.mono HBW.out.size)) x HX.out y HY.out)
              clear hb2
              cases hO : overQ q x y with
              | false =>
                have HQ : Hid (out ++ restE is ds x (ds.drop (i + 1)) (j + 1) = edgesG is ds ds) := HMS.out (by rw [HIS.out, hO]; simp)
                rw [hO] at HCV
                clear hO
                go_wp2_with fail
                refine HCV.out.mono ?_
                rintro e w3 ⟨rfl, hb3⟩
                have HB3 : Hid (Below wr.heap.size wr w3) := HB2.out.trans (hb3.mono HB2.out.size)
                clear hb3
                go_wp2_with fail
                go_roundw
                case rel => exact ⟨j + 1, out, by omega, by go_num, (Turns.of_below (F := fun _ => False) HB3.out).own HOWN.out (fun _ _ hf => hf), HQ.out, HB.out.trans (HB3.out.mono HB.out.size)⟩
                case measure => simp [intOf]; omega
              | true =>
                have HQ : Hid ((out ++ [(x, y)]) ++ restE is ds x (ds.drop (i + 1)) (j + 1) = edgesG is ds ds) := HHT.out (by rw [HIS.out, hO, HTT.out, hne]; rfl)
                rw [hO] at HCV
                obtain ⟨ln, hln⟩ : ∃ ln, out.length = ln := ⟨_, rfl⟩
                have HLN := hid_q hln
                rw [hln] at HOWN hol
                clear hO hln
                go_wp2_with fail
                refine HCV.out.mono ?_
                rintro e w3 ⟨rfl, hb3⟩
                have hb3' : Below wr.heap.size wr w3 := HB2.out.trans (hb3.mono HB2.out.size)
                have hown1 : w3.ownsRow w1.heap.size 50 2 u6 ln (flatE out) := (Turns.of_below (F := fun _ => False) hb3').own HOWN.out (fun _ _ hf => hf)
                have HOW1 := hid_q hown1
                have hbw1 : Below w1.heap.size w1 w3 := HB.out.trans (hb3'.mono HB.out.size)
                have HBW1 := hid_q hbw1
                have hsz1 := hbw1.size
                clear hb3 hb3' hown1 hbw1
                go_wp2_with (at_builtin; refine wpList_append_own _ rfl (.tmp 41) (.tmp 45) 44 rfl w1.heap.size 50 i0 (.agg #[.int .i64 0, .int .i64 0]) 2 16 Try.underlying44 HI.out.1 HI.out.2.1 HI.out.2.2.1 HI.out.2.2.2 rfl (by decide) u6 ln (flatE out) rfl (HOW1.out.alloc _) ⟨w3.heap.size, 0, none⟩ 1 1 (flatE [(x, y)]) rfl rfl (one_edge w3 x y) (flatE_one _) (by unfold maxLen; omega) (by omega) (by simp; omega) ?_; intro v3 w4 hown3 hgr3 hnil3)
                have hB3 := (HBW1.out.alloc hsz1 _).grown hgr3 (by simp; omega) (fun k hk => (HOW1.out.lt k hk).1)
                go_roundw
                case rel => exact ⟨j + 1, out ++ [(x, y)], by omega, by go_num, by rw [List.length_append, HLN.out, flatE_append]; exact hown3, HQ.out, hB3⟩
                case measure => simp [intOf]; omega
        · have hjl' : ¬ (j : Int) < (n : Int) := by omega
          have HQ : Hid (out ++ edgesG is ds (ds.drop (i + 1)) = edgesG is ds ds) := by
            show _ = _
            have h1 := HOUT.out
            rw [show j = ds.length by rw [HN.out]; omega, restE_end] at h1
            exact h1
          go_wp2_with fail
          go_roundw
          case rel => exact ⟨i + 1, out, by omega, by go_num, HOWN.out, HQ.out, HB.out⟩
          case measure => simp [intOf]; omega
    · have hlt' : ¬ (i : Int) < (n : Int) := by omega
      have HQ : Hid (out = edgesG is ds ds) := by
        show out = _
        have h1 := HOUT.out
        rw [List.drop_of_length_le (by have := HN.out; omega), edgesG, List.append_nil] at h1
        exact h1
      go_wp2_with fail
      go_ret
      exact ⟨_, rfl, by rw [← HQ.out]; exact isEdges_own HOWN.out rfl, HB1.out.trans (HB.out.mono HB1.out.size)⟩
end Go.Proofs.Ytccjognnehoodag

namespace Go.Proofs.Ytccjognnehoodag
open Go.RowKit

def edV (x : Edge2) : Value := .agg #[.int .i64 x.1, .int .i64 x.2]
theorem noneE_snocC {q : Edge2 → Bool} {l : List Edge2} {k : Nat} {e : Edge2} (h : l.take (k + 1) = l.take k ++ [e]) (h1 : (l.take k).any q = false) (h2 : q e = false) : (l.take (k + 1)).any q = false := by
  rw [h, List.any_append, h1]; simp [h2]
/-- What IndexFunc answers. -/
def FirstEC (l : List Edge2) (q : Edge2 → Bool) (n : Int) : Prop := (n = -1 ∧ l.any q = false) ∨ ∃ k : Nat, n = k ∧ k < l.length ∧ q (l.getD k (0, 0)) = true ∧ (l.take k).any q = false
theorem getD_memE {l : List Edge2} {k : Nat} (h : k < l.length) : l.getD k (0, 0) ∈ l := by simp [List.getD, h]
theorem FirstEC.sign {l : List Edge2} {q : Edge2 → Bool} {n : Int} (h : FirstEC l q n) : decide (0 ≤ n) = l.any q := by
  rcases h with ⟨rfl, h⟩ | ⟨k, rfl, hk, hq, _⟩
  · rw [h]; rfl
  · have : l.any q = true := List.any_eq_true.2 ⟨_, getD_memE hk, hq⟩
    rw [this]; simp
theorem FirstEC.none {l : List Edge2} {q : Edge2 → Bool} (h : l.any q = false) : FirstEC l q (-1) := .inl ⟨rfl, h⟩
theorem FirstEC.some {l : List Edge2} {q : Edge2 → Bool} {k : Nat} {e : Edge2} (hk : k < l.length) (he : l.getD k (0, 0) = e) (hq : q e = true) (h : (l.take k).any q = false) : FirstEC l q (k : Int) := .inr ⟨k, rfl, hk, by rw [he]; exact hq, h⟩
set_option maxHeartbeats 4000000 in
theorem index_edge (l : List Edge2) (v : Value) (q : Edge2 → Bool) (N : Nat) (C : Array Value) (w : World) (hcall : ∀ (args : Array Value) (W : World), (callFunc N args).run Try.prog W = .ok (.enter N args) W) (hI : IsEdges w v l) (hlen : l.length ≤ 140737488351)
    (hp : ∀ W : World, Below w.heap.size w W → ∀ e ∈ l, Calls Try.prog N (#[edV e] ++ C) W fun r w' => r = .returned (.bool (q e)) ∧ Below W.heap.size W w') :
    Calls Try.prog 67 #[v, .func (.func N) #[] C] w fun r w' => ∃ n : Int, r = .returned (.int .i64 n) ∧ FirstEC l q n ∧ Below w.heap.size w w' := by
  obtain ⟨ad, b, off, cap, rfl, ha, _, hbB, hops⟩ := hI
  have HO : Hid (∀ W, Below w.heap.size w W → ∀ k, k < l.length → ad = some ⟨b, off, none⟩ ∧ W.cell? ⟨b, off + k * 2, none⟩ = some (.int .i64 (l.getD k (0, 0)).1) ∧ W.cell? ⟨b, off + k * 2 + 1, none⟩ = some (.int .i64 (l.getD k (0, 0)).2)) := fun W hW k hk => ⟨ha (by omega), (hops.below hW hbB) k hk⟩
  have HP : Hid (∀ W : World, Below w.heap.size w W → ∀ e ∈ l, Calls Try.prog N (#[edV e] ++ C) W fun r w' => r = .returned (.bool (q e)) ∧ Below W.heap.size W w') := hp
  clear ha hbB hops hp
  go_enter Try.func67, Try.ntmps67
  go_wp2
  go_loopw [8] (fun v8 wr => ∃ k : Nat, k ≤ l.length ∧ v8 = .int .i64 k ∧ (l.take k).any q = false ∧ Below w.heap.size w wr) (fun v8 _ => l.length - (intOf v8).toNat)
  case atStart => exact ⟨0, Nat.zero_le _, rfl, by simp, Below.refl _ _⟩
  case round =>
    obtain ⟨k, hk, rfl, hno, hbel⟩ := hrel
    have HNO : Hid ((l.take k).any q = false) := hno
    clear hno
    have hsz := hbel.size
    by_cases hlt : k < l.length
    · have hlt' : (k : Int) < (l.length : Int) := by omega
      obtain ⟨rfl, c0, c1⟩ := HO.out wr hbel k hlt
      obtain ⟨⟨t, a⟩, ho⟩ : ∃ o : Edge2, l.getD k (0, 0) = o := ⟨_, rfl⟩
      rw [ho] at c0 c1
      have hmem : (t, a) ∈ l := by rw [← ho]; exact getD_memE hlt
      have HT : Hid (l.take (k + 1) = l.take k ++ [(t, a)]) := by
        show l.take (k + 1) = l.take k ++ [(t, a)]
        rw [List.take_succ_eq_append_getElem hlt, ← ho]; simp [List.getD, List.getElem?_eq_getElem hlt]
      have HM : Hid ((t, a) ∈ l) := hmem
      have HG : Hid (l.getD k (0, 0) = (t, a)) := ho
      clear ho HO hmem
      simp only at c0 c1
      cases hq : q (t, a) with
      | false =>
        have HQ : Hid (q (t, a) = false) := hq
        have HC : Hid (Calls Try.prog N (#[.agg #[.int .i64 t, .int .i64 a]] ++ C) wr fun r w' => r = .returned (.bool false) ∧ Below wr.heap.size wr w') := hq ▸ HP.out wr hbel _ HM.out
        clear hq
        go_wp2_with fail
        refine HC.out.mono ?_
        rintro e w1 ⟨rfl, hb1⟩
        go_wp2_with fail
        go_roundw
        case rel => exact ⟨k + 1, by omega, by go_num, noneE_snocC HT.out HNO.out HQ.out, hbel.trans (hb1.mono hsz)⟩
        case measure => simp [intOf]; omega
      | true =>
        have HQ : Hid (q (t, a) = true) := hq
        have HC : Hid (Calls Try.prog N (#[.agg #[.int .i64 t, .int .i64 a]] ++ C) wr fun r w' => r = .returned (.bool true) ∧ Below wr.heap.size wr w') := hq ▸ HP.out wr hbel _ HM.out
        clear hq
        go_wp2_with fail
        refine HC.out.mono ?_
        rintro e w1 ⟨rfl, hb1⟩
        go_wp2_with fail
        go_ret
        exact ⟨_, rfl, FirstEC.some hlt HG.out HQ.out HNO.out, hbel.trans (hb1.mono hsz)⟩
    · have hlt' : ¬ (k : Int) < (l.length : Int) := by omega
      go_wp2_with fail
      go_ret
      refine ⟨_, rfl, FirstEC.none ?_, hbel⟩
      have h0 := HNO.out
      rw [List.take_of_length_le (by omega)] at h0
      exact h0
theorem contains_edge (l : List Edge2) (v : Value) (q : Edge2 → Bool) (N : Nat) (C : Array Value) (w : World) (hcall : ∀ (args : Array Value) (W : World), (callFunc N args).run Try.prog W = .ok (.enter N args) W) (hI : IsEdges w v l) (hlen : l.length ≤ 140737488351)
    (hp : ∀ W : World, Below w.heap.size w W → ∀ e ∈ l, Calls Try.prog N (#[edV e] ++ C) W fun r w' => r = .returned (.bool (q e)) ∧ Below W.heap.size W w') :
    Calls Try.prog 40 #[v, .func (.func N) #[] C] w fun r w' => r = .returned (.bool (l.any q)) ∧ Below w.heap.size w w' := by
  have HC : Hid (Calls Try.prog 67 #[v, .func (.func N) #[] C] w fun r w' => ∃ n : Int, r = .returned (.int .i64 n) ∧ FirstEC l q n ∧ Below w.heap.size w w') := index_edge l v q N C w hcall hI hlen hp
  clear hp hI hcall
  go_enter Try.func40, Try.ntmps40
  go_wp2_with (go_at_call 67; refine HC.out.mono ?_; rintro e w1 ⟨n, rfl, hn, hb1⟩; have hn1 := hn.sign; clear hn)
  all_goals go_ret
  all_goals exact ⟨ret_bool (by simp_all), hb1⟩
theorem call_piv1 : ∀ (args : Array Value) (W : World), (callFunc 41 args).run Try.prog W = .ok (.enter 41 args) W := fun args W => by kernel_rfl
theorem call_piv2 : ∀ (args : Array Value) (W : World), (callFunc 42 args).run Try.prog W = .ok (.enter 42 args) W := fun args W => by kernel_rfl
theorem piv1_fn (x : Edge2) (t : Int) (P : Nat) (w : World) (k : w.cell? ⟨P, 0, none⟩ = some (.int .i64 t)) :
    Calls Try.prog 41 (#[edV x] ++ #[.pointer (some ⟨P, 0, none⟩)]) w fun e w' => e = .returned (.bool (x.2 == t)) ∧ Below w.heap.size w w' := by
  obtain ⟨a, b⟩ := x
  have l1 := World.block_lt_of_cell? w _ k
  unfold edV
  simp only at l1
  cases hf : (b == t) with
  | false =>
    go_enter Try.func41, Try.ntmps41
    go_wp2_with fail
    go_ret
    exact ⟨by first | rfl | rw [hf], (Below.refl _ w).alloc (Nat.le_refl _) _⟩
  | true =>
    go_enter Try.func41, Try.ntmps41
    go_wp2_with fail
    go_ret
    exact ⟨by first | rfl | rw [hf], (Below.refl _ w).alloc (Nat.le_refl _) _⟩
theorem piv2_fn (x : Edge2) (t : Int) (P : Nat) (w : World) (k : w.cell? ⟨P, 0, none⟩ = some (.int .i64 t)) :
    Calls Try.prog 42 (#[edV x] ++ #[.pointer (some ⟨P, 0, none⟩)]) w fun e w' => e = .returned (.bool (x.1 == t)) ∧ Below w.heap.size w w' := by
  obtain ⟨a, b⟩ := x
  have l1 := World.block_lt_of_cell? w _ k
  unfold edV
  simp only at l1
  cases hf : (a == t) with
  | false =>
    go_enter Try.func42, Try.ntmps42
    go_wp2_with fail
    go_ret
    exact ⟨by first | rfl | rw [hf], (Below.refl _ w).alloc (Nat.le_refl _) _⟩
  | true =>
    go_enter Try.func42, Try.ntmps42
    go_wp2_with fail
    go_ret
    exact ⟨by first | rfl | rw [hf], (Below.refl _ w).alloc (Nat.le_refl _) _⟩
end Go.Proofs.Ytccjognnehoodag
