/-
  PROVED HERE: nothing yet of package locks: what its table is asked to answer (LocksC), for the laws that call it: over whatever lies in memory for a table.
  Conditions: none.
  PROVED HERE: locks.Table's method For, over a table in memory: those with which a lock is at odds, rising. Old memory stays as it was.
  Conditions: the lists are short, and locks are locks.
-/
import Derived.Test.YtmjjiehnjghndaaGreatMgar
import Derived.Test.YtmjjiehnjghndaaGreatMgae
import Derived.Test.YtmjjiehnjghndaaGreatMgbp
import Derived.Test.YtmjjiehnjghndaaGreatMgbq
namespace Go.Proofs.YtmjjiehnjghndaaGreat
open Go.RowKit

/-- What Free answers, and what it leaves, at any number. -/
def freeU (s : Tab2) (t : Int) : (List Op3 × Int) × Tab2 := if 1 ≤ t ∧ t ≤ 6 then (((freeT s t).2, 0), (freeT s t).1) else (([], 1), s)
/-- What For answers at any lock. -/
def forU (s : Tab2) (x : Op3) : List Int × Int := if isLock x = true then (forT s x, 0) else ([], 1)
abbrev lockV (x : Op3) : Value := .agg #[.int .i64 x.1, .int .i64 x.2.1, .int .i64 x.2.2]
/-- What package locks is asked to keep by one who only asks: PT w T F s says that at block T lies the table s, in the blocks of F. -/
structure LocksQ (PT : World → Nat → (Nat → Prop) → Tab2 → Prop) : Prop where
  stays : ∀ {w w' : World} {T : Nat} {F : Nat → Prop} {s : Tab2} (G : Nat → Prop), PT w T F s → Turns G w w' → (∀ k, F k → ¬ G k) → PT w' T F s
  lt : ∀ {w : World} {T : Nat} {F : Nat → Prop} {s : Tab2}, PT w T F s → ∀ k, F k → k < w.heap.size
  new : ∀ w : World, Calls Tryz.prog 35 #[] w fun e w' => ∃ T F, e = .returned (.pointer (some ⟨T, 0, none⟩)) ∧ PT w' T F ([], []) ∧ Below w.heap.size w w' ∧ ∀ k, F k → w.heap.size ≤ k
  ask : ∀ (w : World) (T : Nat) (F : Nat → Prop) (s : Tab2) (x : Op3), PT w T F s → s.1.length ≤ 400 → s.2.length ≤ 400 → Calls Tryz.prog 58 #[.pointer (some ⟨T, 0, none⟩), lockV x] w fun e w' => e = .returned (.tuple #[.bool (askT s x).1.1, errV (askT s x).1.2]) ∧ ∃ F', PT w' T F' (askT s x).2 ∧ Turns F w w' ∧ ∀ k, F' k → F k ∨ w.heap.size ≤ k
  whom : ∀ (w : World) (T : Nat) (F : Nat → Prop) (s : Tab2) (x : Op3), PT w T F s → s.1.length ≤ 400 → s.2.length ≤ 400 → Calls Tryz.prog 105 #[.pointer (some ⟨T, 0, none⟩), lockV x] w fun e w' => ∃ v', e = .returned (.tuple #[v', errV (forU s x).2]) ∧ IsInts w' v' (forU s x).1 ∧ Below w.heap.size w w'
theorem LocksQ.below {PT : World → Nat → (Nat → Prop) → Tab2 → Prop} (h : LocksQ PT) {w w' : World} {T : Nat} {F : Nat → Prop} {s : Tab2} (hp : PT w T F s) (hb : Below w.heap.size w w') : PT w' T F s := h.stays (fun _ => False) hp (Turns.of_below hb) fun _ _ hf => hf
end Go.Proofs.YtmjjiehnjghndaaGreat

namespace Go.Proofs.YtmjjiehnjghndaaGreat
open Go.RowKit

/-- What a pointer to a number holds. -/
def heldTx (w : World) : Value → Int
  | .pointer (some a) => intOf ((w.cell? a).getD undef)
  | _ => 0
/-- A number in a block of its own. -/
def TxBox (w : World) (c : Nat) (x : Int) : Prop := w.heap[c]? = some (.cells #[.int .i64 x] 3)
theorem TxBox.cell {w : World} {c : Nat} {x : Int} (h : TxBox w c x) : w.cell? ⟨c, 0, none⟩ = some (.int .i64 x) := by
  rw [cell_of_row w c 0 _ _ (0, 0) h]; rfl
theorem TxBox.lt {w : World} {c : Nat} {x : Int} (h : TxBox w c x) : c < w.heap.size := (Array.getElem?_eq_some_iff.1 h).1
theorem TxBox.below {w w' : World} {c B : Nat} {x : Int} (h : TxBox w c x) (hb : Below B w w') (hc : c < B) : TxBox w' c x := (hb.block c hc).trans h
theorem TxBox.alloc {w : World} {c : Nat} {x : Int} (h : TxBox w c x) (o : Obj) : TxBox (w.alloc o) c x := h.below ((Below.refl _ w).alloc (Nat.le_refl _) o) h.lt
theorem txBox_new (w : World) (x : Int) : TxBox (w.alloc (.cells #[.int .i64 x] 3)) w.heap.size x := heap_alloc_new w _
theorem lstore_func {P : Program} (w : World) (f : Fn) (ts cs : Array Value) (old : Value) (T : TypeId) (n : Nat) (hn : n = w.heap.size) :
    (store ⟨n, 0, none⟩ (.func f ts cs)).run P (w.alloc (.cells #[old] T)) = .ok () (w.alloc (.cells #[.func f ts cs] T)) := by
  subst hn
  rw [run_store _ _ _ _ _ rfl]
  simp [World.setCell_alloc_new]
theorem ops_take {w : World} {v : Value} {base e n g c : Nat} {l : List Op3} (h : w.ownsRow base e 3 v n (flat l)) (hl : l.length = n) (hv : v = .slice (some ⟨g, 0, none⟩) n c) {k : Nat} (hk : k ≤ n) : IsOps w (.slice (some ⟨g, 0, none⟩) k c) (l.take k) := by
  have hg := (h.lt g (by rw [hv]; rfl)).2
  have hkl : (l.take k).length = k := by rw [List.length_take]; omega
  refine ⟨some ⟨g, 0, none⟩, g, 0, c, by rw [hkl], fun _ => rfl, fun h => (by simp at h), .inl hg, fun j hj => ?_⟩
  rw [hkl] at hj
  obtain ⟨g2, c2, hv2, -, -, -, e0, e1, e2⟩ := row_cells h hl (show j < n by omega)
  rw [hv] at hv2
  simp only [Value.slice.injEq, Option.some.injEq, Addr.mk.injEq, and_true, true_and] at hv2
  obtain ⟨rfl, rfl⟩ := hv2
  have he : (l.take k).getD j (0, 0, 0) = opAt l j := by simp [opAt, List.getD, hj]
  rw [he]
  simp only [Nat.zero_add]
  exact ⟨e0, e1, e2⟩
theorem stopP_eq {l : List Op3} {x : Op3} {t : Int} (hl : ∀ y ∈ l, isLock y = true) (hx : isLock x = true) : l.any (fun y => y.1 == t && loddP y x) = l.any (fun y => y.1 == t && lodd y x) := by
  rw [Bool.eq_iff_iff, List.any_eq_true, List.any_eq_true]
  exact ⟨fun ⟨y, hy, h⟩ => ⟨y, hy, by rw [← loddP_eq (hl y hy) hx]; exact h⟩, fun ⟨y, hy, h⟩ => ⟨y, hy, by rw [loddP_eq (hl y hy) hx]; exact h⟩⟩
theorem whom_yes {s : Tab2} {x : Op3} {k : Nat} (h : stopB s x ((k : Int) + 1) = true) : whomTo s x (k + 1) = whomTo s x k ++ [(k : Int) + 1] := by
  rw [whomTo, if_pos h]
theorem whom_no {s : Tab2} {x : Op3} {k : Nat} (h : stopB s x ((k : Int) + 1) = false) : whomTo s x (k + 1) = whomTo s x k := by
  rw [whomTo, if_neg (by rw [h]; decide)]
set_option maxHeartbeats 16000000 in
set_option maxRecDepth 100000 in
theorem pFor_own (T : Nat) (cs : Array Value) (hv wv : Value) (s : Tab2) (x : Op3) (w : World) (h : TabAt w 96 T 0 cs hv wv s) (hl1 : s.1.length ≤ 900) (hl2 : s.2.length ≤ 900) (hok1 : ∀ y ∈ s.1, isLock y = true) (hok2 : ∀ y ∈ s.2, isLock y = true) :
    Calls Tryz.prog 105 #[.pointer (some ⟨T, 0, none⟩), lkV x] w fun e w' => ∃ v', e = .returned (.tuple #[v', errV (forU s x).2]) ∧ OwnI w' w.heap.size v' (forU s x).1 ∧ Below w.heap.size w w' := by
  obtain ⟨t, i, m⟩ := x
  obtain ⟨i0, hi, hz0, hs0, hy0⟩ := info_parts infoInt
  have HI : Hid (Tryz.prog.info? 3 = some i0 ∧ i0.zero = some (.int .i64 0) ∧ i0.size = 1 ∧ i0.bytes = 8) := ⟨hi, hz0, hs0, hy0⟩
  obtain ⟨ad, c, rfl, -⟩ := own_slice3 h.oh
  obtain ⟨wad, wq, rfl, -⟩ := own_slice3 h.ow
  obtain ⟨n1, hn1⟩ : ∃ n, s.1.length = n := ⟨_, rfl⟩
  obtain ⟨ln, hln⟩ : ∃ n, s.2.length = n := ⟨_, rfl⟩
  rw [hn1] at h hl1
  rw [hln] at h hl2
  have HN1 : Hid (s.1.length = n1) := hn1
  have HLN : Hid (s.2.length = ln) := hln
  have HOK : Hid ((∀ y ∈ s.1, isLock y = true) ∧ ∀ y ∈ s.2, isLock y = true) := ⟨hok1, hok2⟩
  have HT : Hid (TabAt w 96 T 0 cs (.slice ad n1 c) (.slice wad ln wq) s) := h
  have hTl := h.lt
  clear h hn1 hln hok1 hok2 hi hz0 hs0 hy0
  go_enter Tryz.func105, Tryz.ntmps105
  go_upto_region 1 with (fail)
  obtain ⟨W, hW⟩ : ∃ W, W = w.alloc (.cells #[.int .i64 t, .int .i64 i, .int .i64 m] 99) := ⟨_, rfl⟩
  rw [← hW]
  have hLW : LockAt W w.heap.size (t, i, m) := by rw [hW]; exact lockAt_box _ _ _ _ _
  have hbW : Below w.heap.size w W := by rw [hW]; exact (Below.refl _ w).alloc (Nat.le_refl _) _
  have hPW : w.heap.size < W.heap.size := hLW.lt
  obtain ⟨P, hP⟩ : ∃ P, P = w.heap.size := ⟨_, rfl⟩
  rw [← hP] at hLW hPW hTl ⊢
  have HP : Hid (P = w.heap.size) := hP
  have HBW : Hid (Below w.heap.size w W) := hbW
  have HLW : Hid (LockAt W P (t, i, m)) := hLW
  obtain ⟨p0, p1, p2⟩ := hLW
  simp only at p0 p1 p2
  clear hW hbW hP
  go_wp2_with fail
  refine (pLock_raw t i m W).mono ?_
  rintro e w1 ⟨rfl, hb1⟩
  have HL1 : Hid (LockAt w1 P (t, i, m)) := HLW.out.below hb1 hPW
  have HB1 : Hid (Below w.heap.size w w1) := HBW.out.trans (hb1.mono (by have := HP.out; omega))
  have HT1 : Hid (∀ V, Below w1.heap.size w1 V → TabAt V 96 T 0 cs (.slice ad n1 c) (.slice wad ln wq) s) := fun V hV => (HT.out.below HB1.out).below hV
  have hP1 : P < w1.heap.size := HL1.out.lt
  clear hb1 p0 p1 p2 hPW HLW HBW
  cases hlk : isLock (t, i, m) with
  | false =>
    have HA : Hid (forU s (t, i, m) = ([], 1)) := by show forU _ _ = _; unfold forU; rw [hlk]; rfl
    clear hlk
    go_wp2_with fail
    go_ret2
    rw [HA.out]
    exact ⟨_, rfl, World.ownsRow_nil _ _ _ _, HB1.out⟩
  | true =>
    have HLK : Hid (isLock (t, i, m) = true) := hlk
    clear hlk
    obtain ⟨q0, q1, q2⟩ := HL1.out
    simp only at q0 q1 q2
    have c1 := (HT1.out w1 (Below.refl _ _)).c1
    simp only [Nat.zero_add] at c1
    have HOF : Hid (Calls Tryz.prog 76 #[.int .i64 t] w1.drew fun e w' => ∃ P2 : Nat, e = .returned (.func (.func 101) #[] #[.pointer (some ⟨P2, 0, none⟩)]) ∧ w'.cell? ⟨P2, 0, none⟩ = some (.int .i64 t) ∧ Below w1.heap.size w1 w' ∧ w1.heap.size ≤ P2) := isOf_later t w1 w1.drew (Below.refl _ w1).drew
    have HCF : Hid (∀ (V : World) (P2 : Nat), Below w1.heap.size w1 V → V.cell? ⟨P2, 0, none⟩ = some (.int .i64 t) → Calls Tryz.prog 100 #[.slice wad ln wq, .func (.func 101) #[] #[.pointer (some ⟨P2, 0, none⟩)]] V fun r w' => ∃ n : Int, r = .returned (.int .i64 n) ∧ FirstL s.2 (fun y => y.1 == t) n ∧ Below w1.heap.size w1 w') := fun V P2 hV hc =>
      (index_lock s.2 _ (fun y => y.1 == t) _ #[.pointer (some ⟨P2, 0, none⟩)] V call_of (HT1.out V hV).waits (by rw [HLN.out]; omega) fun W2 hW2 e _ => pOf_fn e t P2 W2 ((hW2.cell (p := ⟨P2, 0, none⟩) (World.block_lt_of_cell? V _ hc)).trans hc)).mono fun _ _ ⟨n, h1, h2, h3⟩ => ⟨n, h1, h2, hV.trans (h3.mono hV.size)⟩
    have HKC : Hid (∀ V, Below w1.heap.size w1 V → V.cell? ⟨T, 1, none⟩ = some (.slice wad ln wq) ∧ V.cell? ⟨P, 0, none⟩ = some (.int .i64 t)) := fun V hV => ⟨by have := (HT1.out V hV).c1; simpa using this, (hV.cell (p := ⟨P, 0, none⟩) hP1).trans q0⟩
    go_upto_region 4 with (fail)
    go_region_held3 (fun w' => w'.cell? ⟨T, 1, none⟩ = some (.slice wad ln wq) ∧ w'.cell? ⟨P, 0, none⟩ = some (.int .i64 t)) (first | exact ⟨kd0, kd1⟩ | exact ⟨ke0, ke1⟩ | exact ⟨c1, q0⟩) (first | (go_at_call 76; refine HOF.out.mono ?_; rintro e w2 ⟨P2, rfl, hc2, hb2, hP2⟩; obtain ⟨ke0, ke1⟩ := HKC.out w2 hb2) | (go_at_call 100; refine (HCF.out _ _ hb2 hc2).mono ?_; rintro e w3 ⟨n3, rfl, hf3, hb3⟩; obtain ⟨kd0, kd1⟩ := HKC.out w3 hb3))
    all_goals
      have HB3 : Hid (Below w1.heap.size w1 w3) := hb3
      have HF3 : Hid (FirstL s.2 (fun y => y.1 == t) n3) := hf3
      obtain ⟨r0, r1, r2⟩ := HL1.out.below hb3 hP1
      simp only at r0 r1 r2
      clear hb2 hc2 hP2 hb3 ke0 ke1 c1 HOF HCF HKC q0 q1 q2 hf3
      go_upto_if 29 with fail
      go_cut [6] from 28 (fun s6 W => W = w3 ∧ ∃ aad an ac, s6 = .slice aad an ac ∧ ∀ V, Below w3.heap.size w3 V → IsOps V (.slice aad an ac) (aheadL s.2 t))
      case first =>
        rcases HF3.out with ⟨rfl, hno⟩ | ⟨k0, rfl, hk0, hyes, hno⟩
        · have HAH : Hid (∀ V, Below w3.heap.size w3 V → IsOps V (.slice wad ln wq) (aheadL s.2 t)) := fun V hV => by
            rw [ahead_all fun j hj => by have := List.any_eq_false.1 hno _ (opAt_mem hj); simpa using this]
            exact (HT1.out V (HB3.out.trans (hV.mono HB3.out.size))).waits
          clear hno
          go_wp2_with fail
          go_meet
          case rel => exact ⟨rfl, wad, ln, wq, rfl, HAH.out⟩
        · have how : w3.ownsRow (T + 1) 99 3 (.slice wad ln wq) ln (flat s.2) := by have := (HT1.out w3 HB3.out).ow; rw [HLN.out] at this; exact this
          have hk0n : k0 < ln := by rw [HLN.out] at hk0; exact hk0
          obtain ⟨g, c2, hv2, -, -, -, -, -, -⟩ := row_cells how HLN.out hk0n
          simp only [Value.slice.injEq] at hv2
          obtain ⟨rfl, -, rfl⟩ := hv2
          have HAH : Hid (∀ V, Below w3.heap.size w3 V → IsOps V (.slice (some ⟨g, 0, none⟩) k0 wq) (aheadL s.2 t)) := fun V hV => by
            rw [ahead_stop hk0 (fun j hj => by simpa using any_take_not hno hj (by omega)) (by simpa using hyes)]
            refine ops_take (base := T + 1) (e := 99) (n := ln) ?_ HLN.out rfl (by omega)
            have := (HT1.out V (HB3.out.trans (hV.mono HB3.out.size))).ow
            rw [HLN.out] at this
            exact this
          have hcap : ln ≤ wq := by
            obtain ⟨_, ⟨hv, _⟩ | ⟨g3, c3, cur, hv, _, _, hnc, _⟩⟩ := how
            · cases hv
            · simp only [Value.slice.injEq] at hv
              obtain ⟨-, -, rfl⟩ := hv
              exact hnc
          have hk1 : (0 : Int) ≤ (k0 : Int) := by omega
          have hk2 : (k0 : Int) ≤ (wq : Int) := by omega
          clear hno hyes how
          go_wp2_with fail
          go_meet
          case rel => exact ⟨rfl, _, _, _, rfl, HAH.out⟩
      case rest =>
        obtain ⟨hwc, aad, an, ac, hu6, hah⟩ := hcut
        rw [hwc]
        clear hwc
        subst hu6
        have HAH : Hid (∀ V, Below w3.heap.size w3 V → IsOps V (.slice aad an ac) (aheadL s.2 t)) := hah
        have HAL : Hid ((aheadL s.2 t).length ≤ 900) := by
          show List.length _ ≤ _
          have h1 : (aheadL s.2 t).length ≤ s.2.length := (List.takeWhile_sublist _).length_le
          rw [HLN.out] at h1
          omega
        have HAO : Hid (∀ y ∈ aheadL s.2 t, isLock y = true) := fun y hy => HOK.out.2 y ((List.takeWhile_sublist _).subset hy)
        clear hah HF3
        go_wp2_with fail
        refine (pOdds_any (t, i, m) w3).mono ?_
        rintro e w4 ⟨rfl, hL4, hb4⟩
        have hQ4 : w3.heap.size < w4.heap.size := hL4.lt
        obtain ⟨Q, hQ⟩ : ∃ Q, Q = w3.heap.size := ⟨_, rfl⟩
        rw [← hQ] at hL4 hQ4 ⊢
        have HQ0 : Hid (Q = w3.heap.size) := hQ
        clear hQ r0 r1 r2
        go_wp2_with fail
        rw [lstore_func _ _ _ _ _ _ _ (by simp)]
        obtain ⟨V, hV⟩ : ∃ V, V = w4.alloc (.cells #[.func (.func 113) #[] #[.pointer (some ⟨Q, 0, none⟩)]] 116) := ⟨_, rfl⟩
        rw [← hV]
        have v0 : V.cell? ⟨w4.heap.size, 0, none⟩ = some (.func (.func 113) #[] #[.pointer (some ⟨Q, 0, none⟩)]) := by rw [hV]; simp
        have hbV : Below w4.heap.size w4 V := by rw [hV]; exact (Below.refl _ w4).alloc (Nat.le_refl _) _
        have HLV : Hid (LockAt V Q (t, i, m)) := hL4.below hbV hQ4
        have HB3V : Hid (Below w3.heap.size w3 V) := hb4.trans (hbV.mono hb4.size)
        have hOV : w4.heap.size < V.heap.size := World.block_lt_of_cell? V _ v0
        obtain ⟨O, hO⟩ : ∃ O, O = w4.heap.size := ⟨_, rfl⟩
        rw [← hO] at v0 hOV ⊢
        have hQV : Q < V.heap.size := HLV.out.lt
        clear hV hbV hL4 hb4 hO hQ4
        have HFN : Hid (∀ (X : World) (b : Nat) (t2 : Int), Below V.heap.size V X → X.cell? ⟨b, 0, none⟩ = some (.int .i64 t2) → ∀ e : Op3, Calls Tryz.prog 117 #[lkV e, .pointer (some ⟨b, 0, none⟩), .pointer (some ⟨O, 0, none⟩)] X fun r w' => r = .returned (.bool (e.1 == t2 && loddP e (t, i, m))) ∧ Below X.heap.size X w') := fun X b t2 hX hc e =>
          pStops_fn e (t, i, m) t2 b O Q X hc ((hX.cell (p := ⟨O, 0, none⟩) hOV).trans v0) (HLV.out.below hX hQV)
        have HHB : Hid (∀ (X : World) (b : Nat) (t2 : Int), Below V.heap.size V X → X.cell? ⟨b, 0, none⟩ = some (.int .i64 t2) → Calls Tryz.prog 75 #[.slice ad n1 c, .func (.func 117) #[] #[.pointer (some ⟨b, 0, none⟩), .pointer (some ⟨O, 0, none⟩)]] X fun r w' => r = .returned (.bool (s.1.any (fun y => y.1 == t2 && lodd y (t, i, m)))) ∧ Below X.heap.size X w') := fun X b t2 hX hc => by
          rw [← stopP_eq HOK.out.1 HLK.out]
          have h3X := HB3V.out.trans (hX.mono HB3V.out.size)
          exact contains_lock s.1 _ (fun y => y.1 == t2 && loddP y (t, i, m)) _ #[.pointer (some ⟨b, 0, none⟩), .pointer (some ⟨O, 0, none⟩)] X call_stops (HT1.out X (HB3.out.trans (h3X.mono HB3.out.size))).held (by rw [HN1.out]; omega) fun W2 hW2 e _ => HFN.out W2 b t2 (hX.trans (hW2.mono hX.size)) ((hW2.cell (p := ⟨b, 0, none⟩) (World.block_lt_of_cell? X _ hc)).trans hc) e
        have HHA : Hid (∀ (X : World) (b : Nat) (t2 : Int), Below V.heap.size V X → X.cell? ⟨b, 0, none⟩ = some (.int .i64 t2) → Calls Tryz.prog 75 #[.slice aad an ac, .func (.func 117) #[] #[.pointer (some ⟨b, 0, none⟩), .pointer (some ⟨O, 0, none⟩)]] X fun r w' => r = .returned (.bool ((aheadL s.2 t).any (fun y => y.1 == t2 && lodd y (t, i, m)))) ∧ Below X.heap.size X w') := fun X b t2 hX hc => by
          rw [← stopP_eq HAO.out HLK.out]
          have h3X := HB3V.out.trans (hX.mono HB3V.out.size)
          exact contains_lock (aheadL s.2 t) _ (fun y => y.1 == t2 && loddP y (t, i, m)) _ #[.pointer (some ⟨b, 0, none⟩), .pointer (some ⟨O, 0, none⟩)] X call_stops (HAH.out X h3X) (by have := HAL.out; omega) fun W2 hW2 e _ => HFN.out W2 b t2 (hX.trans (hW2.mono hX.size)) ((hW2.cell (p := ⟨b, 0, none⟩) (World.block_lt_of_cell? X _ hc)).trans hc) e
        have HC0 : Hid (∀ X, Below V.heap.size V X → X.cell? ⟨T, 0, none⟩ = some (.slice ad n1 c)) := fun X hX => (HT1.out X (HB3.out.trans ((HB3V.out.trans (hX.mono HB3V.out.size)).mono HB3.out.size))).c0
        have HBWV : Hid (Below w.heap.size w V) := HB1.out.trans ((HB3.out.trans (HB3V.out.mono HB3.out.size)).mono HB1.out.size)
        have HFE : Hid (forU s (t, i, m) = (whomTo s (t, i, m) 6, 0)) := by show forU _ _ = _; unfold forU; rw [if_pos HLK.out, whom_for HOK.out.1 HOK.out.2]
        clear v0 HFN
        go_wp2_with fail
        go_loopw [9, 10, 11] (fun v9 v10 _ wr => ∃ (k b : Nat), k ≤ 6 ∧ v10 = .pointer (some ⟨b, 0, none⟩) ∧ TxBox wr b ((k : Int) + 1) ∧ OwnI wr V.heap.size v9 (whomTo s (t, i, m) k) ∧ (∀ g, v9.ownBlock = some g → g ≠ b) ∧ Below V.heap.size V wr) (fun _ v10 _ wr => 7 - (heldTx wr v10).toNat)
        case atStart => exact ⟨0, _, by omega, rfl, by simpa using txBox_new V 1, ownI_nil _ _, fun g hg => by simp [Value.ownBlock] at hg, (Below.refl _ V).alloc (Nat.le_refl _) _⟩
        case round =>
          obtain ⟨k, b, hk, rfl, hbox, hown, hne, hbel⟩ := hrel
          have hcell := hbox.cell
          have hbl := hbox.lt
          have HBOX : Hid (TxBox wr b ((k : Int) + 1)) := hbox
          have HOWN : Hid (OwnI wr V.heap.size u9 (whomTo s (t, i, m) k)) := hown
          have HNE : Hid (∀ g, Value.ownBlock u9 = some g → g ≠ b) := hne
          have HBEL : Hid (Below V.heap.size V wr) := hbel
          have c0 := HC0.out wr hbel
          have hwl := whomTo_len s (t, i, m) k
          obtain ⟨n, hn⟩ : ∃ n, (whomTo s (t, i, m) k).length = n := ⟨_, rfl⟩
          have HN : Hid ((whomTo s (t, i, m) k).length = n) := hn
          rw [hn] at hwl
          clear hbox hown hne hn
          by_cases hk6 : k < 6
          · have hk6' : (k : Int) + 1 ≤ 6 := by omega
            cases ha : s.1.any (fun y => y.1 == (k : Int) + 1 && lodd y (t, i, m)) with
            | true =>
              have HQ : Hid (whomTo s (t, i, m) (k + 1) = whomTo s (t, i, m) k ++ [(k : Int) + 1]) := whom_yes (by unfold stopB; rw [ha]; rfl)
              have HC := HHB.out wr b _ hbel hcell
              rw [ha] at HC
              clear ha hbel
              go_wp2_with fail
              refine HC.mono ?_
              rintro e wX ⟨rfl, hbX0⟩
              clear HC
              have hownX := HOWN.out.below hbX0 (Nat.le_refl _)
              have HOX : Hid (wX.ownsRow V.heap.size 3 1 u9 n ((whomTo s (t, i, m) k).map (Value.int .i64))) := by show World.ownsRow _ _ _ _ _ _ _; have := hownX; unfold OwnI at this; rw [HN.out] at this; exact this
              have HBX : Hid (Below V.heap.size V wX) := HBEL.out.trans (hbX0.mono HBEL.out.size)
              have hboxX := HBOX.out.below hbX0 hbl
              have HBOXX : Hid (TxBox wX b ((k : Int) + 1)) := hboxX
              have kX := hboxX.cell
              have hblX := hboxX.lt
              have hVX := HBX.out.size
              clear hbX0 hownX hboxX
              go_wp2_with (at_builtin; refine wpList_append_apart _ rfl (.tmp 54) (.tmp 56) 28 rfl V.heap.size 3 i0 (.int .i64 0) 1 8 Tryz.underlying28 HI.out.1 HI.out.2.1 HI.out.2.2.1 HI.out.2.2.2 rfl (by decide) u9 n ((whomTo s (t, i, m) k).map (Value.int .i64)) rfl (HOX.out.alloc _) ⟨wX.heap.size, 0, none⟩ 1 1 [.int .i64 ((k : Int) + 1)] rfl rfl (cell_one_new _ _ _) (by simp [Value.oneCell']) (by unfold maxLen; omega) (by omega) (by simp; omega) ?_; intro v7 w7 hown7 hgr7 hap7; have j7 : w7.cell? ⟨b, 0, none⟩ = some (.int .i64 ((k : Int) + 1)) := (TxBox.cell (show TxBox w7 b ((k : Int) + 1) from (hgr7.block b (by simp; omega) (fun e => HNE.out b e.symm rfl)).trans (HBOXX.out.alloc _))))
              have hB7 := (HBX.out.alloc hVX _).grown hgr7 (by simp; omega) (fun g hg => (HOX.out.lt g hg).1)
              go_roundw
              case rel => exact ⟨k + 1, w7.heap.size, by omega, rfl, by simpa using txBox_new w7 _, by unfold OwnI; rw [HQ.out, List.length_append, HN.out, List.map_append]; exact hown7.alloc _, fun g hg => by have := (hown7.lt g hg).2; omega, hB7.alloc hB7.size _⟩
              case measure => simp [heldTx, intOf, hcell]; omega
            | false =>
              have HC := HHB.out wr b _ hbel hcell
              rw [ha] at HC
              have HAF := hid_of ha
              clear ha hbel
              go_wp2_with fail
              refine HC.mono ?_
              rintro e w5 ⟨rfl, hb5⟩
              clear HC
              have c5 := (hb5.cell (p := ⟨b, 0, none⟩) hbl).trans hcell
              have HD := HHA.out w5 b _ (HBEL.out.trans (hb5.mono HBEL.out.size)) c5
              cases hb' : (aheadL s.2 t).any (fun y => y.1 == (k : Int) + 1 && lodd y (t, i, m)) with
              | true =>
                have HQ : Hid (whomTo s (t, i, m) (k + 1) = whomTo s (t, i, m) k ++ [(k : Int) + 1]) := whom_yes (by unfold stopB; rw [HAF.out]; exact hb')
                rw [hb'] at HD
                clear hb' HAF c5
                go_wp2_with fail
                refine HD.mono ?_
                rintro e wX ⟨rfl, hb6⟩
                clear HD
                have hbX0 : Below wr.heap.size wr wX := hb5.trans (hb6.mono hb5.size)
                clear hb5 hb6
                have hownX := HOWN.out.below hbX0 (Nat.le_refl _)
                have HOX : Hid (wX.ownsRow V.heap.size 3 1 u9 n ((whomTo s (t, i, m) k).map (Value.int .i64))) := by show World.ownsRow _ _ _ _ _ _ _; have := hownX; unfold OwnI at this; rw [HN.out] at this; exact this
                have HBX : Hid (Below V.heap.size V wX) := HBEL.out.trans (hbX0.mono HBEL.out.size)
                have hboxX := HBOX.out.below hbX0 hbl
                have HBOXX : Hid (TxBox wX b ((k : Int) + 1)) := hboxX
                have kX := hboxX.cell
                have hblX := hboxX.lt
                have hVX := HBX.out.size
                clear hbX0 hownX hboxX
                go_wp2_with (at_builtin; refine wpList_append_apart _ rfl (.tmp 54) (.tmp 56) 28 rfl V.heap.size 3 i0 (.int .i64 0) 1 8 Tryz.underlying28 HI.out.1 HI.out.2.1 HI.out.2.2.1 HI.out.2.2.2 rfl (by decide) u9 n ((whomTo s (t, i, m) k).map (Value.int .i64)) rfl (HOX.out.alloc _) ⟨wX.heap.size, 0, none⟩ 1 1 [.int .i64 ((k : Int) + 1)] rfl rfl (cell_one_new _ _ _) (by simp [Value.oneCell']) (by unfold maxLen; omega) (by omega) (by simp; omega) ?_; intro v7 w7 hown7 hgr7 hap7; have j7 : w7.cell? ⟨b, 0, none⟩ = some (.int .i64 ((k : Int) + 1)) := (TxBox.cell (show TxBox w7 b ((k : Int) + 1) from (hgr7.block b (by simp; omega) (fun e => HNE.out b e.symm rfl)).trans (HBOXX.out.alloc _))))
                have hB7 := (HBX.out.alloc hVX _).grown hgr7 (by simp; omega) (fun g hg => (HOX.out.lt g hg).1)
                go_roundw
                case rel => exact ⟨k + 1, w7.heap.size, by omega, rfl, by simpa using txBox_new w7 _, by unfold OwnI; rw [HQ.out, List.length_append, HN.out, List.map_append]; exact hown7.alloc _, fun g hg => by have := (hown7.lt g hg).2; omega, hB7.alloc hB7.size _⟩
                case measure => simp [heldTx, intOf, hcell]; omega
              | false =>
                have HQ : Hid (whomTo s (t, i, m) (k + 1) = whomTo s (t, i, m) k) := whom_no (by unfold stopB; rw [HAF.out]; exact hb')
                rw [hb'] at HD
                clear hb' HAF c5
                go_wp2_with fail
                refine HD.mono ?_
                rintro e wX ⟨rfl, hb6⟩
                clear HD
                have hbX0 : Below wr.heap.size wr wX := hb5.trans (hb6.mono hb5.size)
                clear hb5 hb6
                have hownX := HOWN.out.below hbX0 (Nat.le_refl _)
                have HBX : Hid (Below V.heap.size V wX) := HBEL.out.trans (hbX0.mono HBEL.out.size)
                have hboxX := HBOX.out.below hbX0 hbl
                have kX := hboxX.cell
                have HOX := hid_of hownX
                clear hbX0 hownX hboxX
                go_wp2_with fail
                go_roundw
                case rel => exact ⟨k + 1, wX.heap.size, by omega, rfl, by simpa using txBox_new wX _, by rw [HQ.out]; exact World.ownsRow.alloc HOX.out _, fun g hg => by have := (World.ownsRow.lt HOX.out g hg).2; omega, HBX.out.alloc HBX.out.size _⟩
                case measure => simp [heldTx, intOf, hcell]; omega
          · have hk6' : ¬ (k : Int) + 1 ≤ 6 := by omega
            obtain rfl : k = 6 := by omega
            go_wp2_with fail
            go_ret2
            rw [HFE.out]
            exact ⟨_, rfl, HOWN.out.less HBWV.out.size, HBWV.out.trans (HBEL.out.mono HBWV.out.size)⟩
theorem pFor_any (T : Nat) (cs : Array Value) (hv wv : Value) (s : Tab2) (x : Op3) (w : World) (h : TabAt w 96 T 0 cs hv wv s) (hl1 : s.1.length ≤ 900) (hl2 : s.2.length ≤ 900) (hok1 : ∀ y ∈ s.1, isLock y = true) (hok2 : ∀ y ∈ s.2, isLock y = true) :
    Calls Tryz.prog 105 #[.pointer (some ⟨T, 0, none⟩), lkV x] w fun e w' => ∃ v', e = .returned (.tuple #[v', errV (forU s x).2]) ∧ IsInts w' v' (forU s x).1 ∧ Below w.heap.size w w' :=
  (pFor_own T cs hv wv s x w h hl1 hl2 hok1 hok2).mono fun _ _ ⟨v', he, hi, hb⟩ => ⟨v', he, hi.ints, hb⟩
end Go.Proofs.YtmjjiehnjghndaaGreat
