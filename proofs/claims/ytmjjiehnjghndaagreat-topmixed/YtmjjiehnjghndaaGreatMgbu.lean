/-
  PROVED HERE: locks.Table's method Free, over a table in memory: who is held by that. Of the blocks that there were, only the table's own turn.
  Conditions: the lists are short, and locks are locks.
  (Of these, what the claim wants: the rest was left out.)
  PROVED HERE: a row of one's own of which the slice shows a later piece (s = s[1:]), what append makes of it, and where it lies then: where it lay, or in a new block.
  Conditions: as the library's laws of append have them.
-/
import Derived.Test.YtmjjiehnjghndaaGreatMgbt
import Derived.Test.YtmjjiehnjghndaaGreatMgbr
import Derived.Test.YtmjjiehnjghndaaGreatMgbh
namespace Go.Proofs.YtmjjiehnjghndaaGreat
open Go.RowKit

/-- DeleteFunc by isOf, on a row of one's own, in whatever world has come since. -/
theorem deleteOf_later (l : List Op3) (ad : Option Addr) (n c : Nat) (t : Int) (T : Nat) (w V : World) (P2 : Nat) (hown : w.ownsRow (T + 1) 99 3 (.slice ad n c) n (flat l)) (hl : l.length = n) (hn : n ≤ 400) (hV : Below w.heap.size w V) (hc : V.cell? ⟨P2, 0, none⟩ = some (.int .i64 t)) (hP : w.heap.size ≤ P2) :
    Calls Tryz.prog 99 #[.slice ad n c, .func (.func 101) #[] #[.pointer (some ⟨P2, 0, none⟩)]] V fun r w' => ∃ ad' c', r = .returned (.slice ad' (withoutL l t).length c') ∧ w'.ownsRow (T + 1) 99 3 (.slice ad' (withoutL l t).length c') (withoutL l t).length (flat (withoutL l t)) ∧ Turns (fun k => (Value.slice ad n c).ownBlock = some k) w w' ∧ ∀ g, (Value.slice ad' (withoutL l t).length c').ownBlock = some g → (Value.slice ad n c).ownBlock = some g := by
  subst hl
  refine (delete_lock l _ (fun y => y.1 == t) _ (T + 1) #[.pointer (some ⟨P2, 0, none⟩)] V call_of ((Turns.of_below (F := fun _ => False) hV).own hown fun _ _ hf => hf) hn fun W hW e _ => pOf_fn e t P2 W ?_).mono ?_
  · exact (hW.cell (p := ⟨P2, 0, none⟩) (World.block_lt_of_cell? V _ hc) (fun h => by have := (hown.lt P2 h).2; omega)).trans hc
  · rintro e w' ⟨v', rfl, h1, h2, h3⟩
    obtain ⟨ad', c', rfl, -⟩ := own_slice3 h1
    exact ⟨ad', c', rfl, h1, (Turns.of_below hV).trans h2 fun _ _ h => h, h3⟩
set_option maxHeartbeats 16000000 in
set_option maxRecDepth 100000 in
theorem pFree_row (T : Nat) (cs : Array Value) (hv wv : Value) (s : Tab2) (t : Int) (w : World) (h : TabAt w 96 T 0 cs hv wv s) (hl1 : s.1.length ≤ 400) (hl2 : s.2.length ≤ 400) (hok1 : ∀ y ∈ s.1, isLock y = true) (hok2 : ∀ y ∈ s.2, isLock y = true) :
    Calls Tryz.prog 71 #[.pointer (some ⟨T, 0, none⟩), .int .i64 t] w fun e w' => ∃ v', e = .returned (.tuple #[v', errV (freeU s t).1.2]) ∧ w'.ownsRow w.heap.size 99 3 v' (freeU s t).1.1.length (flat (freeU s t).1.1) ∧ ∃ hv' wv', (∀ g, v'.ownBlock = some g → ¬ foot T hv' wv' g) ∧ TabAt w' 96 T 0 (put2 cs 0 hv' wv') hv' wv' (freeU s t).2 ∧ Turns (foot T hv wv) w w' ∧ ∀ k, foot T hv' wv' k → foot T hv wv k ∨ w.heap.size ≤ k := by
  obtain ⟨i0, hi, hz0, hs0, hy0⟩ := info_parts infoLock
  have HI : Hid (Tryz.prog.info? 99 = some i0 ∧ i0.zero = some (.agg #[.int .i64 0, .int .i64 0, .int .i64 0]) ∧ i0.size = 3 ∧ i0.bytes = 24) := ⟨hi, hz0, hs0, hy0⟩
  obtain ⟨ad, c, rfl, -⟩ := own_slice3 h.oh
  obtain ⟨wad, wq, rfl, -⟩ := own_slice3 h.ow
  obtain ⟨n1, hn1⟩ : ∃ n, s.1.length = n := ⟨_, rfl⟩
  obtain ⟨ln, hln⟩ : ∃ n, s.2.length = n := ⟨_, rfl⟩
  rw [hn1] at h hl1 ⊢
  rw [hln] at h hl2 ⊢
  have HN1 : Hid (s.1.length = n1) := hn1
  have HLN : Hid (s.2.length = ln) := hln
  have HOK : Hid ((∀ y ∈ s.1, isLock y = true) ∧ ∀ y ∈ s.2, isLock y = true) := ⟨hok1, hok2⟩
  have HT : Hid (TabAt w 96 T 0 cs (.slice ad n1 c) (.slice wad ln wq) s) := h
  have hTl := h.lt
  have c0 := h.c0
  clear h hn1 hln hok1 hok2 hi hz0 hs0 hy0
  go_enter Tryz.func71, Tryz.ntmps71
  go_wp2_with fail
  refine (pDeal_any t w).mono ?_
  rintro e w0 ⟨rfl, hw0⟩
  rw [hw0]
  clear hw0
  by_cases hd : 1 ≤ t ∧ t ≤ 6
  · have hd' : decide (1 ≤ t ∧ t ≤ 6) = true := decide_eq_true hd
    have HFU : Hid (freeU s t = (((freeT s t).2, 0), (freeT s t).1)) := by show freeU _ _ = _; unfold freeU; rw [if_pos hd]
    rw [hd']
    clear hd hd'
    have HOF : Hid (Calls Tryz.prog 76 #[.int .i64 t] w.drew fun e w' => ∃ P2 : Nat, e = .returned (.func (.func 101) #[] #[.pointer (some ⟨P2, 0, none⟩)]) ∧ w'.cell? ⟨P2, 0, none⟩ = some (.int .i64 t) ∧ Below w.heap.size w w' ∧ w.heap.size ≤ P2) := isOf_later t w w.drew (Below.refl _ w).drew
    have HDF : Hid (∀ (V : World) (P2 : Nat), Below w.heap.size w V → V.cell? ⟨P2, 0, none⟩ = some (.int .i64 t) → w.heap.size ≤ P2 → Calls Tryz.prog 99 #[.slice ad n1 c, .func (.func 101) #[] #[.pointer (some ⟨P2, 0, none⟩)]] V fun r w' => ∃ ad' n' c', r = .returned (.slice ad' n' c') ∧ w'.cell? ⟨T, 0, none⟩ = some (.slice ad n1 c) ∧ w'.frozen? ⟨T, 0, none⟩ = false ∧ n' = (withoutL s.1 t).length ∧ TabStep w (w'.setCell ⟨T, 0, none⟩ (.slice ad' n' c')) 96 T 0 cs (.slice ad n1 c) (.slice wad ln wq) (withoutL s.1 t, s.2)) := fun V P2 hV hc hP => by
      have hoh : w.ownsRow (T + 1) 99 3 (.slice ad n1 c) n1 (flat s.1) := by have := HT.out.oh; rw [HN1.out] at this; exact this
      refine (deleteOf_later s.1 ad n1 c t T w V P2 hoh HN1.out hl1 hV hc hP).mono ?_
      rintro e w' ⟨ad', c', rfl, h1, h2, h3⟩
      have hnT : ¬ (Value.slice ad n1 c).ownBlock = some T := fun e => by have := (hoh.lt T e).1; omega
      exact ⟨ad', _, c', rfl, (h2.cell (p := ⟨T, 0, none⟩) hTl hnT).trans c0, (World.frozen?_of_block (a := ⟨T, 0, none⟩) (h2.block T hTl hnT)).trans (HT.out.thaw 0), rfl, tab_set0 HT.out h2 h1 fun g hg => .inl (h3 g hg)⟩
    have HKC : Hid (∀ V, Below w.heap.size w V → V.cell? ⟨T, 0, none⟩ = some (.slice ad n1 c)) := fun V hV => (HT.out.below hV).c0
    go_wp2_with fail
    go_region_with (first | (go_at_call 76; refine HOF.out.mono ?_; rintro e w2 ⟨P2, rfl, hc2, hb2, hP2⟩; have ke0 := HKC.out w2 hb2) | (go_at_call 99; refine (HDF.out _ _ hb2 hc2 hP2).mono ?_; rintro e w3 ⟨ad3, n3, c3, rfl, kd0, kd1, hn3, hst3⟩; have HST3 := hid_of hst3; have HN3 := hid_of hn3; clear hst3 hn3))
    all_goals
      obtain ⟨X, hX⟩ : ∃ X, X = w3.setCell ⟨T, 0, none⟩ (.slice ad3 n3 c3) := ⟨_, rfl⟩
      rw [← hX] at HST3 ⊢
      obtain ⟨hv4, wv4, ht4, htu4, hf4⟩ := HST3.out
      obtain ⟨ha, hc, ehv, -⟩ := own_slice3 ht4.oh
      obtain ⟨wa, wk, ewv, -⟩ := own_slice3 ht4.ow
      simp only at ehv ewv
      rw [HLN.out] at ewv
      obtain ⟨nh, hnh⟩ : ∃ n, (withoutL s.1 t).length = n := ⟨_, rfl⟩
      rw [hnh] at ehv
      subst ehv
      subst ewv
      have HT4 : Hid (TabAt X 96 T 0 (put2 cs 0 (.slice ha nh hc) (.slice wa ln wk)) (.slice ha nh hc) (.slice wa ln wk) (withoutL s.1 t, s.2)) := ht4
      have HTU4 : Hid (Turns (foot T (.slice ad n1 c) (.slice wad ln wq)) w X) := htu4
      have HF4 : Hid (∀ k, foot T (.slice ha nh hc) (.slice wa ln wk) k → foot T (.slice ad n1 c) (.slice wad ln wq) k ∨ w.heap.size ≤ k) := hf4
      have hTX := ht4.lt
      have c1 := ht4.c1
      simp only [Nat.zero_add] at c1
      obtain ⟨rest, hrest⟩ : ∃ r, withoutL s.2 t = r := ⟨_, rfl⟩
      have HGR : Hid (freeT s t = grants ((withoutL s.1 t, []), []) rest) := by show freeT s t = _; unfold freeT; rw [hrest]
      have HRL : Hid (rest.length ≤ 400) := by
        show rest.length ≤ 400
        have h1 : (withoutL s.2 t).length ≤ s.2.length := List.length_filter_le _ _
        rw [HLN.out, hrest] at h1
        omega
      have HRO : Hid (∀ y ∈ rest, isLock y = true) := fun y hy => HOK.out.2 y (List.mem_filter.1 (hrest ▸ hy)).1
      clear hX kd0 kd1 ke0 hc2 hb2 hP2 HN3 HOF HDF HKC c0 HST3 ht4 htu4 hf4 hnh
      have HOF : Hid (Calls Tryz.prog 76 #[.int .i64 t] X.drew fun e w' => ∃ P2 : Nat, e = .returned (.func (.func 101) #[] #[.pointer (some ⟨P2, 0, none⟩)]) ∧ w'.cell? ⟨P2, 0, none⟩ = some (.int .i64 t) ∧ Below X.heap.size X w' ∧ X.heap.size ≤ P2) := isOf_later t X X.drew (Below.refl _ X).drew
      have HDF : Hid (∀ (V : World) (P2 : Nat), Below X.heap.size X V → V.cell? ⟨P2, 0, none⟩ = some (.int .i64 t) → X.heap.size ≤ P2 → Calls Tryz.prog 99 #[.slice wa ln wk, .func (.func 101) #[] #[.pointer (some ⟨P2, 0, none⟩)]] V fun r w' => ∃ ad' c', r = .returned (.slice ad' rest.length c') ∧ w'.cell? ⟨T, 1, none⟩ = some (.slice wa ln wk) ∧ w'.frozen? ⟨T, 1, none⟩ = false ∧ FreeP w (w'.setCell ⟨T, 1, none⟩ (.slice none 0 0)) 96 T 0 cs (.slice ad n1 c) (.slice wad ln wq) (.slice ad' rest.length c') rest ((withoutL s.1 t, []), []) (.slice ha nh hc) (.slice none 0 0) (.slice none 0 0)) := fun V P2 hV hcc hP => by
        have how : X.ownsRow (T + 1) 99 3 (.slice wa ln wk) ln (flat s.2) := by have := HT4.out.ow; rw [HLN.out] at this; exact this
        refine (deleteOf_later s.2 wa ln wk t T X V P2 how HLN.out hl2 hV hcc hP).mono ?_
        rw [hrest]
        rintro e w' ⟨ad', c', rfl, h1, h2, h3⟩
        have hnT : ¬ (Value.slice wa ln wk).ownBlock = some T := fun e => by have := (how.lt T e).1; omega
        exact ⟨ad', c', rfl, (h2.cell (p := ⟨T, 1, none⟩) hTX hnT).trans c1, (World.frozen?_of_block (a := ⟨T, 1, none⟩) (h2.block T hTX hnT)).trans (HT4.out.thaw 1), FreeP.start HT.out HT4.out HTU4.out HF4.out h2 h1 h3⟩
      have HKC : Hid (∀ V, Below X.heap.size X V → V.cell? ⟨T, 1, none⟩ = some (.slice wa ln wk)) := fun V hV => by have := (HT4.out.below hV).c1; simpa using this
      clear hrest
      go_wp2_with fail
      go_region_held3 (fun w' => w'.cell? ⟨T, 1, none⟩ = some (.slice wa ln wk)) (first | exact kd0 | exact ke0 | exact c1) (first | (go_at_call 76; refine HOF.out.mono ?_; rintro e w5 ⟨P2, rfl, hc2, hb2, hP2⟩; have ke0 := HKC.out w5 hb2) | (go_at_call 99; refine (HDF.out _ _ hb2 hc2 hP2).mono ?_; rintro e w6 ⟨ad6, c6, rfl, kd0, kd1, hfr6⟩; have HFR := hid_of hfr6; clear hfr6))
      clear hb2 hc2 hP2 ke0 c1 HOF HDF HKC HT4 HTU4 HF4
      go_wp2_with fail
      go_loopw [7, 9, 36] (fun v7 _ v36 wr => ∃ (k : Nat) (hvk wvk : Value), k ≤ rest.length ∧ v36 = .int .i64 k ∧ FreeP w wr 96 T 0 cs (.slice ad n1 c) (.slice wad ln wq) (.slice ad6 rest.length c6) rest (grants ((withoutL s.1 t, []), []) (rest.take k)) hvk wvk v7) (fun _ _ v36 _ => rest.length - (intOf v36).toNat)
      case atStart => exact ⟨0, _, _, Nat.zero_le _, rfl, HFR.out⟩
      case round =>
        obtain ⟨k, hvk, wvk, hk, rfl, hfr⟩ := hrel
        have hgl := grants_len (rest.take k) ((withoutL s.1 t, []), [])
        have hw1 : (withoutL s.1 t).length ≤ n1 := by
          have h1 : (withoutL s.1 t).length ≤ s.1.length := List.length_filter_le _ _
          rw [HN1.out] at h1
          exact h1
        have htk : (rest.take k).length ≤ k := List.length_take_le _ _
        have hlk := grants_locks (rest.take k) ((withoutL s.1 t, []), []) (fun y hy => HOK.out.1 y (List.mem_filter.1 hy).1) (fun y hy => by cases hy) (fun y hy => HRO.out y (List.mem_of_mem_take hy))
        have hrl := HRL.out
        obtain ⟨st, hst⟩ : ∃ st, grants ((withoutL s.1 t, []), []) (rest.take k) = st := ⟨_, rfl⟩
        have HSTK : Hid (grants ((withoutL s.1 t, []), []) (rest.take k) = st) := hst
        rw [hst] at hfr hgl hlk
        simp only [List.length_nil] at hgl
        have HGL : Hid (st.1.1.length ≤ 800 ∧ st.1.2.length ≤ 400 ∧ st.2.length ≤ 400) := ⟨by omega, by omega, by omega⟩
        have HLKS := hid_of hlk
        clear hst hgl hw1 htk hlk
        obtain ⟨oak, ock, eov, -⟩ := own_slice3 hfr.out
        obtain ⟨no, hno⟩ : ∃ n, st.2.length = n := ⟨_, rfl⟩
        have HNO : Hid (st.2.length = no) := hno
        rw [hno] at eov
        subst eov
        have HFK : Hid (FreeP w wr 96 T 0 cs (.slice ad n1 c) (.slice wad ln wq) (.slice ad6 rest.length c6) rest st hvk wvk (.slice oak no ock)) := hfr
        clear hfr hno
        by_cases hlt : k < rest.length
        · have hlt' : (k : Int) < (rest.length : Int) := by omega
          obtain ⟨g, c2, hv2, -, hgl, -, e0, e1, e2⟩ := row_cells HFK.out.row rfl hlt
          simp only [Value.slice.injEq] at hv2
          obtain ⟨rfl, -, rfl⟩ := hv2
          obtain ⟨⟨t2, i2, m2⟩, ho⟩ : ∃ o : Op3, opAt rest k = o := ⟨_, rfl⟩
          have HO : Hid (opAt rest k = (t2, i2, m2)) := ho
          have HLX : Hid (isLock (t2, i2, m2) = true) := by show isLock _ = true; rw [← ho]; exact HRO.out _ (opAt_mem hlt)
          rw [ho] at e0 e1 e2
          simp only at e0 e1 e2
          clear ho
          go_upto_region 10 with (fail)
          obtain ⟨W, hW⟩ : ∃ W, W = wr.alloc (.cells #[.int .i64 t2, .int .i64 i2, .int .i64 m2] 99) := ⟨_, rfl⟩
          rw [← hW]
          have hLW : LockAt W wr.heap.size (t2, i2, m2) := by rw [hW]; exact lockAt_box _ _ _ _ _
          have hbW : Below wr.heap.size wr W := by rw [hW]; exact (Below.refl _ wr).alloc (Nat.le_refl _) _
          have HFW : Hid (FreeP w W 96 T 0 cs (.slice ad n1 c) (.slice wad ln wq) (.slice (some ⟨g, 0, none⟩) rest.length c6) rest st hvk wvk (.slice oak no ock)) := HFK.out.below hbW
          have hPW : wr.heap.size < W.heap.size := hLW.lt
          obtain ⟨P, hP⟩ : ∃ P, P = wr.heap.size := ⟨_, rfl⟩
          have HFP : Hid (∀ j, foot T hvk wvk j → j < P) := fun j hj => by rw [hP]; exact (HFK.out.tab.foot_lt hj).2
          rw [← hP] at hLW hPW ⊢
          have HLW := hid_of hLW
          obtain ⟨p0, p1, p2⟩ := hLW
          simp only at p0 p1 p2
          clear hW hbW hP e0 e1 e2 hgl HFK
          go_wp2_with fail
          refine (take_any T (put2 cs 0 hvk wvk) hvk wvk st.1 (t2, i2, m2) W HFW.out.tab (by have := HGL.out.1; omega) (by have := HGL.out.2.1; omega) HLKS.out.1 HLKS.out.2 HLX.out).mono ?_
          rintro e w7 ⟨rfl, hst7⟩
          have htu7 : Turns (foot T hvk wvk) W w7 := by obtain ⟨_, _, _, h1, _⟩ := hst7; exact h1
          have q0 := (htu7.cell (p := ⟨P, 0, none⟩) hPW (fun hj => absurd (HFP.out P hj) (by omega))).trans p0
          have q1 := (htu7.cell (p := ⟨P, 1, none⟩) hPW (fun hj => absurd (HFP.out P hj) (by omega))).trans p1
          have q2 := (htu7.cell (p := ⟨P, 2, none⟩) hPW (fun hj => absurd (HFP.out P hj) (by omega))).trans p2
          obtain ⟨hv7, wv7, hf7⟩ := HFW.out.step hst7
          have HF7 : Hid (FreeP w w7 96 T 0 cs (.slice ad n1 c) (.slice wad ln wq) (.slice (some ⟨g, 0, none⟩) rest.length c6) rest ((takeT st.1 (t2, i2, m2)).2, st.2) hv7 wv7 (.slice oak no ock)) := hf7
          have HNX0 : Hid (grants ((withoutL s.1 t, []), []) (rest.take (k + 1)) = ((takeT st.1 (t2, i2, m2)).2, if (takeT st.1 (t2, i2, m2)).1 = true then st.2 ++ [(t2, i2, m2)] else st.2)) := by show grants _ _ = _; rw [grants_snoc hlt, HSTK.out, HO.out]; exact grant_take st.1 st.2 _
          obtain ⟨s7, hs7⟩ : ∃ s7, (takeT st.1 (t2, i2, m2)).2 = s7 := ⟨_, rfl⟩
          obtain ⟨b7, hb7⟩ : ∃ b7, (takeT st.1 (t2, i2, m2)).1 = b7 := ⟨_, rfl⟩
          rw [hs7] at HF7 HNX0
          rw [hb7] at HNX0 ⊢
          have hs7w : w.heap.size ≤ w7.heap.size := hf7.turn.size
          clear hs7 hb7 hst7 htu7 hf7 p0 p1 p2 HFW HFP HLW hPW
          cases b7 with
          | false =>
            have HNX : Hid (grants ((withoutL s.1 t, []), []) (rest.take (k + 1)) = (s7, st.2)) := HNX0.out
            clear HNX0
            go_wp2_with fail
            go_roundw
            case rel => exact ⟨k + 1, hv7, wv7, by omega, by go_num, by rw [HNX.out]; exact HF7.out⟩
            case measure => simp [intOf]; omega
          | true =>
            have HNX : Hid (grants ((withoutL s.1 t, []), []) (rest.take (k + 1)) = (s7, st.2 ++ [(t2, i2, m2)])) := HNX0.out
            have HOO : Hid (w7.ownsRow w.heap.size 99 3 (.slice oak no ock) no (flat st.2)) := by show World.ownsRow _ _ _ _ _ _ _; have := HF7.out.out; rw [show (s7, st.2).2.length = no from HNO.out] at this; exact this
            have hno4 : no ≤ 400 := by have := HGL.out.2.2; have := HNO.out; omega
            clear HNX0
            go_wp2_with (at_builtin; refine wpList_append_apart _ rfl (.tmp 43) (.tmp 45) 94 rfl w.heap.size 99 i0 (.agg #[.int .i64 0, .int .i64 0, .int .i64 0]) 3 24 Tryz.underlying94 HI.out.1 HI.out.2.1 HI.out.2.2.1 HI.out.2.2.2 rfl (by decide) (.slice oak no ock) no (flat st.2) rfl (HOO.out.alloc _) ⟨w7.heap.size, 0, none⟩ 1 1 (flat [(t2, i2, m2)]) rfl rfl (lock_new w7 (t2, i2, m2) _) (flat_one _) (by unfold maxLen; omega) (by omega) (by simp; omega) ?_; intro v8 w8 hown8 hgr8 hap8)
            have htu8 : Turns (fun j => (Value.slice oak no ock).ownBlock = some j) w7 w8 := ((Turns.refl _ w7).alloc _).grown hgr8 fun _ hk => .inl hk
            have hf8 := HF7.out.more (ol := st.2 ++ [(t2, i2, m2)]) htu8 (by rw [List.length_append, HNO.out, flat_append]; exact hown8) fun q hq => by
              rcases hap8 q hq with h1 | h1
              · exact .inl h1
              · exact .inr (by simp at h1; omega)
            go_roundw
            case rel => exact ⟨k + 1, hv7, wv7, by omega, by go_num, by rw [HNX.out]; exact hf8⟩
            case measure => simp [intOf]; omega
        · have hlt' : ¬ (k : Int) < (rest.length : Int) := by omega
          obtain rfl : k = rest.length := by omega
          have HEND : Hid (freeT s t = st) := by
            show freeT s t = st
            rw [HGR.out, ← HSTK.out, List.take_length]
          go_wp2_with fail
          go_ret2
          rw [HFU.out, HEND.out]
          exact ⟨_, rfl, HFK.out.out, hvk, wvk, HFK.out.so, HFK.out.tab, HFK.out.turn, HFK.out.feet⟩
  · have hd' : decide (1 ≤ t ∧ t ≤ 6) = false := decide_eq_false hd
    have HFU : Hid (freeU s t = (([], 1), s)) := by show freeU _ _ = _; unfold freeU; rw [if_neg hd]
    rw [hd']
    clear hd hd'
    go_wp2_with fail
    go_ret2
    rw [HFU.out]
    exact ⟨_, rfl, World.ownsRow_nil _ _ _ _, _, _, fun g hg => by simp [Value.ownBlock] at hg, by rw [HT.out.put]; exact HT.out, Turns.refl _ _, fun _ hk => .inl hk⟩
end Go.Proofs.YtmjjiehnjghndaaGreat

namespace Go.Proofs.YtmjjiehnjghndaaGreat
open Go.RowKit

/-- A slice that shows a piece of a row of one's own. -/
def Tail (w : World) (base : Nat) (e : TypeId) (size : Nat) (v : Value) (n : Nat) (xs : List Value) : Prop :=
  xs.length = n * size ∧ ((v = .slice none 0 0 ∧ n = 0) ∨ ∃ g off cap cur, v = .slice (some ⟨g, off, none⟩) n cap ∧ base ≤ g ∧ w.heap[g]? = some (.cells cur e (0, 0)) ∧ n ≤ cap ∧ off + cap * size ≤ cur.size ∧ ∀ j u, xs[j]? = some u → w.cell? ⟨g, off + j, none⟩ = some u)
theorem tail_nil (w : World) (base : Nat) (e : TypeId) (size : Nat) : Tail w base e size (.slice none 0 0) 0 [] := ⟨by simp, .inl ⟨rfl, rfl⟩⟩
theorem tail_of_own {w : World} {base e size n : Nat} {v : Value} {xs : List Value} (h : w.ownsRow base e size v n xs) : Tail w base e size v n xs := by
  have h' := h
  obtain ⟨hl, hd | ⟨g, cap, cur, hv, hbg, hg, hn, hm, hsz, htk⟩⟩ := h
  · exact ⟨hl, .inl hd⟩
  · refine ⟨hl, .inr ⟨g, 0, cap, cur, hv, hbg, hg, hn, by omega, fun j u hj => ?_⟩⟩
    have := h'.cells (g := g) (by rw [hv]; rfl) j u hj
    rw [Addr.add_lit] at this
    exact this
theorem Tail.lt {w : World} {base e size n : Nat} {v : Value} {xs : List Value} (h : Tail w base e size v n xs) : ∀ k, v.ownBlock = some k → base ≤ k ∧ k < w.heap.size := by
  intro k hk
  obtain ⟨_, ⟨hv, _⟩ | ⟨g, off, cap, cur, hv, hbg, hg, _⟩⟩ := h
  · rw [hv] at hk; simp [Value.ownBlock] at hk
  · rw [hv] at hk
    simp only [Value.ownBlock, Option.some.injEq] at hk
    subst hk
    exact ⟨hbg, (Array.getElem?_eq_some_iff.1 hg).1⟩
theorem Tail.less {w : World} {base base2 e size n : Nat} {v : Value} {xs : List Value} (h : Tail w base e size v n xs) (hb : base2 ≤ base) : Tail w base2 e size v n xs := by
  obtain ⟨hl, hd | ⟨g, off, cap, cur, hv, hbg, h1⟩⟩ := h
  · exact ⟨hl, .inl hd⟩
  · exact ⟨hl, .inr ⟨g, off, cap, cur, hv, Nat.le_trans hb hbg, h1⟩⟩
theorem Tail.same {w w1 : World} {base e size n : Nat} {v : Value} {xs : List Value} (h : Tail w base e size v n xs) (hb : ∀ g, v.ownBlock = some g → w1.heap[g]? = w.heap[g]?) : Tail w1 base e size v n xs := by
  obtain ⟨hl, hd | ⟨g, off, cap, cur, hv, hbg, hg, hn, hsz, hc⟩⟩ := h
  · exact ⟨hl, .inl hd⟩
  · have he := hb g (by rw [hv]; rfl)
    exact ⟨hl, .inr ⟨g, off, cap, cur, hv, hbg, he.trans hg, hn, hsz, fun j u hj => (World.cell?_of_block (a := ⟨g, off + j, none⟩) he).trans (hc j u hj)⟩⟩
theorem block_setCells (b : Nat) : ∀ (vs : List Value) (o : Nat) (w : World) (cur : Array Value) (e : TypeId), w.heap[b]? = some (.cells cur e (0, 0)) → ∃ cur', (w.setCells b o vs).heap[b]? = some (.cells cur' e (0, 0)) ∧ cur'.size = cur.size
  | [], _, _, cur, _, h => ⟨cur, h, rfl⟩
  | v :: r, o, w, cur, e, h => by
    obtain ⟨cur', h1, h2⟩ := block_setCells b r (o + 1) (w.setCell ⟨b, o, none⟩ v) (cur.setIfInBounds o v) e (by unfold World.setCell; simp [Array.getElem?_modify, h])
    exact ⟨cur', h1, by simpa using h2⟩
theorem grown_setCells (b : Nat) : ∀ (vs : List Value) (o : Nat) (w : World), w.grownBy (w.setCells b o vs) (some b)
  | [], _, w => ⟨rfl, rfl, rfl, Nat.le_refl _, fun _ _ _ => rfl⟩
  | v :: r, o, w => by
    have h := grown_setCells b r (o + 1) (w.setCell ⟨b, o, none⟩ v)
    refine ⟨h.os, h.tape, h.output, ?_, fun k hk hne => ?_⟩
    · have h2 := h.size
      have h3 : (w.setCell ⟨b, o, none⟩ v).heap.size = w.heap.size := by simp
      show w.heap.size ≤ ((w.setCell ⟨b, o, none⟩ v).setCells b (o + 1) r).heap.size
      omega
    · exact (h.block k (by simpa using hk) hne).trans (Below.heap_setCell w ⟨b, o, none⟩ v k (fun e => hne (by rw [e])))
theorem run_append_tail {P : Program} (w : World) (base : Nat) (t ty e : TypeId) (i : TypeInfo) (z : Value) (size bytes : Nat) (ht : P.underlying t = some (.slice e)) (hi : P.info? e = some i) (hz : i.zero = some z)
    (hsize : i.size = size) (hby : i.bytes = bytes) (hzs : z.cells.size = size) (hsz : 0 < size)
    (v : Value) (n : Nat) (xs : List Value) (hown : Tail w base e size v n xs)
    (a : Addr) (m c : Nat) (news : List Value) (hl : news.length = m * size) (hnews : ∀ j u, news[j]? = some u → w.cell? (a.add j) = some u) (h1 : ∀ u ∈ news, u.oneCell' = true)
    (h63 : n + m ≤ maxLen) (hbytes : (n + m) * bytes ≤ 140737488355328) (hbase : base ≤ w.heap.size) :
    ∃ v' w', (Builtin.append_ #[t, t] ty #[v, .slice (some a) m c]).run P w = .ok v' w' ∧ Tail w' base e size v' (n + m) (xs ++ news) ∧ w.grownBy w' v.ownBlock ∧
      ∀ g, v'.ownBlock = some g → v.ownBlock = some g ∨ w.heap.size ≤ g := by
  have hown' := hown
  obtain ⟨hxl, ⟨rfl, rfl⟩ | ⟨g, off, cap, cur, rfl, hbg, hg, hnc, hcs, hcell⟩⟩ := hown
  · have hx : xs = [] := List.eq_nil_of_length_eq_zero (by simpa using hxl)
    subst hx
    obtain ⟨v', w', hr, ho, hgr, -⟩ := run_append_own (P := P) w w.heap.size t ty e i z size bytes ht hi hz hsize hby hzs hsz (.slice none 0 0) 0 [] (World.ownsRow_nil w _ e size) a m c news hl hnews h1 h63 hbytes (Nat.le_refl _)
    exact ⟨v', w', hr, (tail_of_own ho).less hbase, hgr, fun g hg => .inr (ho.lt g hg).1⟩
  · by_cases hroom : n + m ≤ cap
    · subst hsize
      have hfit : n * i.size + news.length ≤ cap * i.size := by rw [hl, ← Nat.add_mul]; exact Nat.mul_le_mul_right _ hroom
      have hcells : ∀ j, j < news.length → (w.cell? ⟨g, off + n * i.size + j, none⟩).isSome = true := fun j hj => by
        rw [cell_of_row w g _ _ _ _ hg, Array.getElem?_eq_getElem (by omega)]
        rfl
      have hr := run_append_room_cells (P := P) w t ty e i ht hi g off n cap a m c news hl hnews h1 hroom hcells (fun j _ => by simp [World.frozen?, hg])
      obtain ⟨cur', hg', hsz'⟩ := block_setCells g news (off + n * i.size) w cur e hg
      refine ⟨_, _, hr, ⟨by rw [List.length_append, hxl, hl, Nat.add_mul], .inr ⟨g, off, cap, cur', rfl, hbg, hg', hroom, by omega, fun j u hj => ?_⟩⟩, grown_setCells g news _ w, fun q hq => .inl (by simpa [Value.ownBlock] using hq)⟩
      rcases Nat.lt_or_ge j xs.length with hjx | hjx
      · rw [List.getElem?_append_left hjx] at hj
        rw [World.cell?_setCells_out g news _ w _ (fun _ _ => .inl (by simp; omega))]
        exact hcell j u hj
      · rw [List.getElem?_append_right hjx] at hj
        have hjn := (List.getElem?_eq_some_iff.1 hj)
        obtain ⟨hjl, hju⟩ := hjn
        have := World.cell?_setCells_in g news (off + n * i.size) w hcells (j - xs.length) hjl
        rw [show off + n * i.size + (j - xs.length) = off + j by omega, hju] at this
        exact this
    · obtain ⟨v', w', hr, ho, hgr⟩ := run_append_arg_grows (P := P) w t ty e i z size bytes ht hi hz hsize hby hzs hsz ⟨g, off, none⟩ n cap xs hxl (fun j u hj => by rw [Addr.add_lit]; exact hcell j u hj) a m c news hl hnews (by omega) h63 hbytes
      exact ⟨v', w', hr, (tail_of_own ho).less hbase, ⟨hgr.os, hgr.tape, hgr.output, hgr.size, fun k hk _ => hgr.block k hk (by simp)⟩, fun q hq => .inr (ho.lt q hq).1⟩
/-- As one step of a region that draws. -/
theorem step_append_tail {P : Program} {ops : Array Oper} {o : Oper} {a : Act} {w : World} {K : Act → World → Prop} {Q : Exit → Act → World → Prop} {E : Prop}
    (hgd : o.guard = none) (s x : Operand) (t : TypeId) (ho : o.op = .call { callee := .builtin .append, args := #[s, x], argTypes := #[t, t] })
    (base : Nat) (e : TypeId) (i : TypeInfo) (z : Value) (size bytes : Nat) (ht : P.underlying t = some (.slice e)) (hi : P.info? e = some i) (hz : i.zero = some z)
    (hsize : i.size = size) (hby : i.bytes = bytes) (hzs : z.cells.size = size) (hsz : 0 < size)
    (v : Value) (n : Nat) (xs : List Value) (hs : a.eval s = v) (hown : Tail w base e size v n xs)
    (ad : Addr) (m c : Nat) (news : List Value) (hx : a.eval x = .slice (some ad) m c) (hl : news.length = m * size) (hnews : ∀ j u, news[j]? = some u → w.cell? (ad.add j) = some u) (h1 : ∀ u ∈ news, u.oneCell' = true)
    (h63 : n + m ≤ maxLen) (hbytes : (n + m) * bytes ≤ 140737488355328) (hbase : base ≤ w.heap.size)
    (h : ∀ v' w', Tail w' base e size v' (n + m) (xs ++ news) → w.grownBy w' v.ownBlock → (∀ g, v'.ownBlock = some g → v.ownBlock = some g ∨ w.heap.size ≤ g) → K (a.put o.dst v') w') :
    if Region.wanted o (yielded ops a.tmps) = true then Oper.wp P o a w K Q else E := by
  have hw : Region.wanted o (yielded ops a.tmps) = true := by simp [Region.wanted, hgd]
  rw [if_pos hw]
  obtain ⟨v', w', hr, h2, h3, h4⟩ := run_append_tail (P := P) w base t o.type e i z size bytes ht hi hz hsize hby hzs hsz v n xs hown ad m c news hl hnews h1 h63 hbytes hbase
  unfold Oper.wp execOp
  simp only [ho, resolve, invoke, builtin, Sem.run_bind, Sem.run_pure, Result.andThen_ok, List.map_toArray, List.map_cons, List.map_nil, hs, hx, hr]
  exact h v' w' h2 h3 h4
/-- s = s[1:]. -/
theorem Tail.pop {w : World} {base e size n g off cap : Nat} {xs : List Value} (h : Tail w base e size (.slice (some ⟨g, off, none⟩) (n + 1) cap) (n + 1) xs) (ad : Addr) (ha : ad = ⟨g, off + size, none⟩ ∨ (cap = 1 ∧ ad = ⟨g, off, none⟩)) : Tail w base e size (.slice (some ad) n (cap - 1)) n (xs.drop size) := by
  obtain ⟨hxl, ⟨hv, _⟩ | ⟨g2, off2, cap2, cur, hv, hbg, hg, hnc, hcs, hcell⟩⟩ := h
  · cases hv
  · simp only [Value.slice.injEq, Option.some.injEq, Addr.mk.injEq, and_true, true_and] at hv
    obtain ⟨⟨rfl, rfl⟩, rfl⟩ := hv
    refine ⟨by rw [List.length_drop, hxl, Nat.add_mul]; omega, .inr ?_⟩
    have hcap : (cap - 1) * size + size = cap * size := by
      have : cap = (cap - 1) + 1 := by omega
      rw [this]
      simp [Nat.add_mul]
    rcases ha with rfl | ⟨rfl, rfl⟩
    · refine ⟨g, off + size, cap - 1, cur, rfl, hbg, hg, by omega, by omega, fun j u hj => ?_⟩
      rw [List.getElem?_drop] at hj
      rw [Nat.add_assoc]
      exact hcell _ u hj
    · obtain rfl : n = 0 := by omega
      refine ⟨g, off, 0, cur, rfl, hbg, hg, Nat.le_refl _, by simp at hcs ⊢; omega, fun j u hj => ?_⟩
      rw [List.getElem?_drop, List.getElem?_eq_none (by omega)] at hj
      cases hj
end Go.Proofs.YtmjjiehnjghndaaGreat
