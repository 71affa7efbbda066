/-
  PROVED HERE: lanelaw2.by says yes of an outcome that is as if deals had come one behind the other, by an order. Old memory stays as it was.
  Conditions: the lists are short, the ops are ops.
-/
import Derived.Test.YtccjognnehoodagKindBy0
import Derived.Test.YtccjognnehoodagMgan
import Derived.Test.YtccjognnehoodagVictMap
import Derived.Test.YtccjognnehoodagSameInts
import Derived.OwnWalk
import Derived.Deep.CutRange
namespace Go.Proofs.Ytccjognnehoodag
open Go.RowKit

/-- Who wrote an item last, of deals one behind the other, by their ops. -/
def lastO (l : List Op3) (p : List Int) (item : Int) : Int := p.foldl (fun f t => if inB (wrL (ofL l t)) item = true then t else f) 0
def lastG (l : List Op3) (p : List Int) (i : Nat) : Int := lastO l p ((i : Int) + 1)
theorem lastO_snoc (l : List Op3) (p : List Int) (t item : Int) : lastO l (p ++ [t]) item = if inB (wrL (ofL l t)) item = true then t else lastO l p item := by
  unfold lastO
  rw [List.foldl_append]
  rfl
/-- .. and while a deal is gone over. -/
def lastE (t : Int) (f : Nat → Int) (ws : List Int) (i : Nat) : Int := if inB ws ((i : Int) + 1) = true then t else f i
theorem expK_wr (t : Int) (last : Int → Int) (own : List Op3) : (expK t last own).2 = wrL own := by
  have h : ∀ (own : List Op3) (s : List Op3 × List Int), (own.foldl (expStep t last) s).2 = s.2 ++ wrL own := by
    intro own
    induction own with
    | nil => intro s; simp [wrL]
    | cons o r ih =>
      intro s
      rw [List.foldl_cons, ih]
      unfold expStep wrL
      by_cases h1 : o.2.1 = 1
      · rw [if_pos h1]
        have : (o.2.1 == 2) = false := by rw [h1]; rfl
        simp [this]
      · rw [if_neg h1]
        by_cases h2 : o.2.1 = 2
        · rw [if_pos h2]
          have : (o.2.1 == 2) = true := by rw [h2]; rfl
          simp [this]
        · rw [if_neg h2]
          have : (o.2.1 == 2) = false := by simpa using h2
          simp [this]
  exact (h own ([], [])).trans (by simp)
theorem lastE_nil (t : Int) (f : Nat → Int) : lastE t f [] = f := by funext i; unfold lastE; rw [if_neg (by simp [inB])]
theorem lastE_all (l : List Op3) (p : List Int) (t : Int) : lastE t (lastG l p) (wrL (ofL l t)) = lastG l (p ++ [t]) := by
  funext i
  unfold lastE lastG
  rw [lastO_snoc]
theorem lastE_snoc (t : Int) (f : Nat → Int) (ws : List Int) {k : Nat} : lastE t f (ws ++ [(k : Int) + 1]) = fun j => if j = k then t else lastE t f ws j := by
  funext i
  unfold lastE
  by_cases e : i = k
  · subst e
    rw [if_pos (by simp [inB]), if_pos rfl]
  · rw [if_neg e]
    have : inB (ws ++ [(k : Int) + 1]) ((i : Int) + 1) = inB ws ((i : Int) + 1) := by
      unfold inB
      simp
      omega
    rw [this]
theorem expK_prefix (t : Int) (last : Int → Int) (own : List Op3) (j : Nat) : ∃ r, (expK t last own).1 = (expK t last (own.take j)).1 ++ r := by
  have h : ∀ (b : List Op3) (s : List Op3 × List Int), ∃ r, (b.foldl (expStep t last) s).1 = s.1 ++ r := by
    intro b
    induction b with
    | nil => intro s; exact ⟨[], by simp⟩
    | cons o b ih =>
      intro s
      obtain ⟨r, hr⟩ := ih (expStep t last s o)
      rw [List.foldl_cons, hr]
      unfold expStep
      split
      · exact ⟨_ :: r, by simp; rfl⟩
      · split
        · exact ⟨r, rfl⟩
        · exact ⟨r, rfl⟩
  have e : expK t last own = (own.drop j).foldl (expStep t last) (expK t last (own.take j)) := by
    unfold expK
    rw [← List.foldl_append, List.take_append_drop]
  rw [e]
  exact h _ _
/-- An outcome in a block of its own. -/
def OBx (w : World) (P : Nat) (a1 a2 a3 : Value) : Prop := w.heap[P]? = some (.cells #[a1, a2, a3] 28 (0, 0))
theorem OBx.turn {w w1 : World} {P : Nat} {a1 a2 a3 : Value} {F : Nat → Prop} (h : OBx w P a1 a2 a3) (ht : Turns F w w1) (hF : ¬ F P) : OBx w1 P a1 a2 a3 := by
  have h' : w.heap[P]? = _ := h
  exact (ht.block P (Array.getElem?_eq_some_iff.1 h').1 hF).trans h
theorem OBx.cells {w : World} {P : Nat} {a1 a2 a3 : Value} (h : OBx w P a1 a2 a3) : w.cell? ⟨P, 0, none⟩ = some a1 ∧ w.cell? ⟨P, 1, none⟩ = some a2 ∧ w.cell? ⟨P, 2, none⟩ = some a3 := by
  refine ⟨?_, ?_, ?_⟩ <;> rw [cell_of_row w P _ _ _ _ h] <;> rfl
/-- How things stand in 'by'. -/
structure BySt (w0 w : World) (P L : Nat) (a1 a2 a3 : Value) (la : Nat → Int) : Prop where
  box : OBx w P a1 a2 a3
  nums : NumsAt w L 6 la
  old : Below w0.heap.size w0 w
  ltL : L < w.heap.size
  newL : w0.heap.size ≤ L
  ne : P ≠ L
section
variable {w0 w w1 : World} {P L : Nat} {a1 a2 a3 : Value} {la : Nat → Int}
theorem BySt.later (h : BySt w0 w P L a1 a2 a3 la) (hb : Below w.heap.size w w1) : BySt w0 w1 P L a1 a2 a3 la :=
  have ht : Turns (fun _ => False) w w1 := Turns.of_below hb
  ⟨h.box.turn ht (fun hf => hf), h.nums.turn ht h.ltL (fun hf => hf), h.old.trans (hb.mono h.old.size), Nat.lt_of_lt_of_le h.ltL ht.size, h.newL, h.ne⟩
theorem BySt.put (h : BySt w0 w P L a1 a2 a3 la) {k : Nat} (hk : k < 6) (x : Int) : BySt w0 (w.setCell ⟨L, k, none⟩ (.int .i64 x)) P L a1 a2 a3 (fun j => if j = k then x else la j) := by
  have ht : Turns (fun j => j = L) w (w.setCell ⟨L, k, none⟩ (.int .i64 x)) := by
    refine Turns.setCell (Turns.refl _ w) ?_ _
    exact .inl rfl
  exact ⟨h.box.turn ht h.ne, h.nums.set hk x, h.old.setCell h.newL _, by simpa using h.ltL, h.newL, h.ne⟩
end
theorem by_start {w w1 : World} {a1 a2 a3 : Value} (hown : w1.ownsRow (w.heap.size + 1) 3 1 (.slice (some ⟨w.heap.size + 1, 0, none⟩) 6 6) 6 (madeCells (Value.int .i64 0).cells (6 * 1)).toList) (hgr : (w.alloc (.cells #[a1, a2, a3] 28)).grownBy w1 none) :
    BySt w w1 w.heap.size (w.heap.size + 1) a1 a2 a3 (fun _ => 0) := by
  have hL : w.heap.size + 1 < w1.heap.size := (hown.lt _ rfl).2
  have h0 : (w.alloc (.cells #[a1, a2, a3] 28)).heap[w.heap.size]? = some (.cells #[a1, a2, a3] 28 (0, 0)) := heap_alloc_new w _
  exact ⟨(hgr.block _ (by simp) (by simp)).trans h0, nums_start hown (made_zero 6), ((Below.refl _ w).alloc (Nat.le_refl _) _).grown hgr (by simp) (fun g hg => by cases hg), hL, by omega, by omega⟩
/-- A row of one's own above a block that turns. -/
theorem row_keep {w : World} {base e L : Nat} {v : Value} {l : List Op3} (h : w.ownsRow base e 3 v l.length (flat l)) (hL : L < base) : ∃ ad cap b, v = .slice ad l.length cap ∧ (0 < l.length → ad = some ⟨b, 0, none⟩) ∧ ∀ W, Turns (fun j => j = L) w W → ∀ j, j < l.length → W.cell? ⟨b, j * 3, none⟩ = some (.int .i64 (opAt l j).1) ∧ W.cell? ⟨b, j * 3 + 1, none⟩ = some (.int .i64 (opAt l j).2.1) ∧ W.cell? ⟨b, j * 3 + 2, none⟩ = some (.int .i64 (opAt l j).2.2) := by
  have h' := h
  obtain ⟨hx, ⟨hv, hd⟩ | ⟨g, cap, cur, hv, hb, hg, hn, hm, hsz, htk⟩⟩ := h'
  · exact ⟨none, 0, 0, by rw [hv, hd], fun hp => by omega, fun W _ j hj => by omega⟩
  · refine ⟨some ⟨g, 0, none⟩, cap, g, hv, fun _ => rfl, fun W hW j hj => ?_⟩
    have h2 := hW.own h fun k hk e => by
      have := (h.lt k hk).1
      omega
    have h3 : OpsAt W g 0 l := opsAt_of fun j u hj => by
      have := h2.cells (g := g) (by rw [hv]; rfl) j u hj
      rw [Addr.add_lit] at this
      exact this
    have h4 := h3 j hj
    rw [Nat.zero_add] at h4
    exact h4
/-- What 'by' asks of an outcome. -/
def ByOk (l : List Op3) (se : List Op3) (la ord : List Int) : Prop :=
  (∀ i, i < ord.length → se.filter (fun o : Op3 => o.1 == ord.getD i 0) = (expK (ord.getD i 0) (lastO l (ord.take i)) (ofL l (ord.getD i 0))).1) ∧ la = (List.range 6).map (lastG l ord)
theorem takeB {ds : List Int} {k : Nat} (h : k < ds.length) : ds.take (k + 1) = ds.take k ++ [ds.getD k 0] := by rw [List.take_succ_eq_append_getElem h]; simp [List.getD, List.getElem?_eq_getElem h]
set_option maxHeartbeats 16000000 in
set_option maxRecDepth 100000 in
theorem by_any (l : List Op3) (v a1 a2 a3 vo : Value) (se : List Op3) (la ord : List Int) (w : World) (hI : IsOps w v l) (hs1 : ∃ ad n c, a1 = .slice ad n c) (h2 : IsOps w a2 se) (h3 : IsInts w a3 la) (ho : IsInts w vo ord)
    (hop : ∀ o ∈ l, isOpB o = true) (hlen : l.length ≤ 40) (hsl : se.length ≤ 240) (hol : ord.length ≤ 6) (hby : ByOk l se la ord) :
    Calls Try.prog 25 #[v, .agg #[a1, a2, a3], vo] w fun e w' => e = .returned (.bool true) ∧ Below w.heap.size w w' := by
  have HOF : Hid (∀ W, Below w.heap.size w W → ∀ t, Calls Try.prog 8 #[v, .int .i64 t] W fun e w' => ∃ v', e = .returned v' ∧ w'.ownsRow W.heap.size 24 3 v' (ofL l t).length (flat (ofL l t)) ∧ Below W.heap.size W w') := fun W hW t => refOf_own l v t W (hI.below hW (Nat.le_refl _)) (by omega)
  obtain ⟨x1, y1, z1, rfl⟩ := hs1
  obtain ⟨x3, b3, o3, z3, hv3, ha3, hn3, hbB3, hc3⟩ := h3
  have H3 : Hid (IsInts w a3 la) := ⟨x3, b3, o3, z3, hv3, ha3, hn3, hbB3, hc3⟩
  subst hv3
  have HSE : Hid (∀ W, Below w.heap.size w W → ∀ t, Calls Try.prog 43 #[.agg #[.slice x1 y1 z1, a2, .slice x3 la.length z3], .int .i64 t] W fun e w' => ∃ v', e = .returned v' ∧ w'.ownsRow W.heap.size 60 3 v' (se.filter (fun o : Op3 => o.1 == t)).length (flat (se.filter (fun o : Op3 => o.1 == t))) ∧ Below W.heap.size W w') := fun W hW t => seen_own se _ a2 _ t W (h2.below hW (Nat.le_refl _)) (by omega) ⟨_, _, _, rfl⟩ ⟨_, _, _, rfl⟩
  obtain ⟨x2, y2, z2, rfl⟩ : ∃ ad n c, a2 = .slice ad n c := by obtain ⟨ad, _, _, cap, hv, _⟩ := h2; exact ⟨ad, _, cap, hv⟩
  obtain ⟨ad0, b0, off0, cap0, hv0, -⟩ := hI
  subst hv0
  obtain ⟨ad, b, off, cap, rfl, ha, -, hbB, hc⟩ := ho
  have HCE : Hid (∀ W, Below w.heap.size w W → ∀ k, k < ord.length → ad = some ⟨b, off, none⟩ ∧ W.cell? ⟨b, off + k, none⟩ = some (.int .i64 (ord.getD k 0))) := fun W hW k hk => by
    have hb1 : b < w.heap.size := by
      rcases hbB with h | h
      · exact h
      · subst h; simp at hk
    exact ⟨ha (by omega), (hW.cell (p := ⟨b, off + k, none⟩) hb1).trans (hc k hk)⟩
  have HBY := hid_s hby
  have HOP : Hid (∀ t, ∀ o ∈ ofL l t, isOpB o = true ∧ o.1 = t) := fun t o ho => by
    have h5 := List.mem_filter.1 ho
    exact ⟨hop o h5.1, by simpa using h5.2⟩
  have HOL : Hid (∀ t, (ofL l t).length ≤ 40) := fun t => Nat.le_trans (List.length_filter_le _ _) hlen
  have HFL : Hid (∀ t, (se.filter (fun o : Op3 => o.1 == t)).length ≤ 240) := fun t => Nat.le_trans (List.length_filter_le _ _) hsl
  obtain ⟨j0, hj, hjz0, hjs0, hjy0⟩ := info_parts infoInt
  have HJ : Hid (Try.prog.info? 3 = some j0 ∧ j0.zero = some (.int .i64 0) ∧ j0.size = 1 ∧ j0.bytes = 8) := ⟨hj, hjz0, hjs0, hjy0⟩
  have HL6 : Hid (la.length = 6) := by show _ = _; rw [hby.2]; simp
  clear hby hop hc hbB ha h2 hj hjz0 hjs0 hjy0 ha3 hn3 hbB3 hc3
  go_enter Try.func25, Try.ntmps25
  go_upto_region 2 with (at_make; refine wpList_make_full _ rfl (.const (.int .i64 6)) (.const (.int .i64 6)) 25 rfl (w.heap.size + 1) 3 j0 (.int .i64 0) 1 Try.underlying25 HJ.out.1 HJ.out.2.1 HJ.out.2.2.1 .i64 .i64 6 6 6 rfl rfl rfl rfl (by rw [HJ.out.2.2.2]; omega) (by unfold maxLen; omega) (by simp) ?_; intro w1 hown1 hgr1)
  rw [show (w.alloc (.cells #[.slice x1 y1 z1, .slice x2 y2 z2, .slice x3 la.length z3] 28)).heap.size = w.heap.size + 1 by simp] at hown1
  have HST := hid_s (by_start hown1 hgr1)
  obtain ⟨P, hP⟩ : ∃ P, P = w.heap.size := ⟨_, rfl⟩
  obtain ⟨L, hL⟩ : ∃ L, L = w.heap.size + 1 := ⟨_, rfl⟩
  rw [← hL, ← hP] at HST ⊢
  clear hown1 hgr1 hL hP
  have HS0 : Hid (BySt w w1 P L (.slice x1 y1 z1) (.slice x2 y2 z2) (.slice x3 la.length z3) (lastG l (ord.take 0))) := HST.out
  clear HST
  go_wp2_with fail
  go_loopw [8, 9, 10, 11, 12, 13] (fun v8 _ _ _ _ _ wr => ∃ k : Nat, k ≤ ord.length ∧ v8 = .int .i64 k ∧ BySt w wr P L (.slice x1 y1 z1) (.slice x2 y2 z2) (.slice x3 la.length z3) (lastG l (ord.take k))) (fun v8 _ _ _ _ _ _ => ord.length - (intOf v8).toNat)
  case atStart => exact ⟨0, Nat.zero_le _, rfl, HS0.out⟩
  case round =>
    obtain ⟨k, hk, rfl, hst⟩ := hrel
    have HSK := hid_s hst
    clear hst HS0
    by_cases hlt : k < ord.length
    · have hlt' : (k : Int) < (ord.length : Int) := by omega
      have hk0 : (0 : Int) ≤ (k : Int) := by omega
      have hkn : ¬ (k : Int) < 0 := by omega
      obtain ⟨rfl, ck⟩ := HCE.out wr HSK.out.old k hlt
      obtain ⟨t, ht⟩ : ∃ t, ord.getD k 0 = t := ⟨_, rfl⟩
      have HTE := hid_s ht
      have hsee := HBY.out.1 k hlt
      rw [ht] at ck hsee
      obtain ⟨last, hlast⟩ : ∃ f, lastO l (ord.take k) = f := ⟨_, rfl⟩
      rw [hlast] at hsee
      have HLA : Hid (∀ i, lastG l (ord.take k) i = last ((i : Int) + 1)) := fun i => by show lastO l (ord.take k) ((i : Int) + 1) = _; rw [hlast]
      obtain ⟨own, hown⟩ : ∃ o, ofL l t = o := ⟨_, rfl⟩
      have HOFt : Hid (Calls Try.prog 8 #[.slice ad0 l.length cap0, .int .i64 t] wr fun e w' => ∃ v', e = .returned v' ∧ w'.ownsRow wr.heap.size 24 3 v' own.length (flat own) ∧ Below wr.heap.size wr w') := by have := HOF.out wr HSK.out.old t; rw [hown] at this; exact this
      have HOWL : Hid ((∀ o ∈ own, isOpB o = true ∧ o.1 = t) ∧ own.length ≤ 40 ∧ wrL own = wrL (ofL l t)) := by rw [← hown]; exact ⟨HOP.out t, HOL.out t, rfl⟩
      obtain ⟨sl, hsl'⟩ : ∃ s, se.filter (fun o : Op3 => o.1 == t) = s := ⟨_, rfl⟩
      rw [hsl', hown] at hsee
      have HSEE := hid_s hsee
      have HSEt : Hid (∀ W, Below w.heap.size w W → Calls Try.prog 43 #[.agg #[.slice x1 y1 z1, .slice x2 y2 z2, .slice x3 la.length z3], .int .i64 t] W fun e w' => ∃ v', e = .returned v' ∧ w'.ownsRow W.heap.size 60 3 v' sl.length (flat sl) ∧ Below W.heap.size W w') := fun W hW => by have := HSE.out W hW t; rw [hsl'] at this; exact this
      have hsl240 : sl.length ≤ 240 := by rw [← hsl']; exact HFL.out t
      clear ht hlast hown hsl' hsee
      go_wp2_with fail
      refine HOFt.out.mono ?_
      rintro e w2 ⟨v2, rfl, hio, hb2⟩
      have HS2 := hid_s (HSK.out.later hb2)
      have HLT := hid_s HSK.out.ltL
      have HIO := hid_s hio
      obtain ⟨p2, r2, s2, hv2⟩ : ∃ ad n c, v2 = .slice ad n c := by obtain ⟨ad, c, h, -⟩ := own_slice3 hio; exact ⟨ad, _, c, h⟩
      subst hv2
      obtain ⟨q0, q1, q2⟩ := HS2.out.box.cells
      have HBb2 := hid_s hb2
      clear hb2 hio HOFt ck
      go_wp2_with fail
      refine (HSEt.out w2 HS2.out.old).mono ?_
      rintro e w3 ⟨v3, rfl, his, hb3⟩
      have HS3 := hid_s (HS2.out.later hb3)
      have hio3 : w3.ownsRow wr.heap.size 24 3 (.slice p2 r2 s2) own.length (flat own) := (Turns.of_below (F := fun _ => False) hb3).own HIO.out fun _ _ hf => hf
      obtain ⟨ado, capo, bo, ho1, ho2, ho3⟩ := row_keep hio3 HLT.out
      obtain ⟨ads, caps, bs, hs1, hs2, hs3⟩ := row_keep his (Nat.lt_of_lt_of_le HLT.out HBb2.out.size)
      rw [ho1]
      subst hs1
      obtain ⟨no, hno⟩ : ∃ n, own.length = n := ⟨_, rfl⟩
      have hno40 : no ≤ 40 := by rw [← hno]; exact HOWL.out.2.1
      obtain ⟨ns, hns⟩ : ∃ n, sl.length = n := ⟨_, rfl⟩
      have hns240 : ns ≤ 240 := by rw [← hns]; exact hsl240
      have HOO : Hid (∀ W, Turns (fun j => j = L) w3 W → ∀ j, j < no → ado = some ⟨bo, 0, none⟩ ∧ W.cell? ⟨bo, j * 3, none⟩ = some (.int .i64 (opAt own j).1) ∧ W.cell? ⟨bo, j * 3 + 1, none⟩ = some (.int .i64 (opAt own j).2.1) ∧ W.cell? ⟨bo, j * 3 + 2, none⟩ = some (.int .i64 (opAt own j).2.2)) := fun W hW j hj => ⟨ho2 (by omega), ho3 W hW j (by omega)⟩
      have HSS : Hid (∀ W, Turns (fun j => j = L) w3 W → ∀ j, j < ns → ads = some ⟨bs, 0, none⟩ ∧ W.cell? ⟨bs, j * 3, none⟩ = some (.int .i64 (opAt sl j).1) ∧ W.cell? ⟨bs, j * 3 + 1, none⟩ = some (.int .i64 (opAt sl j).2.1) ∧ W.cell? ⟨bs, j * 3 + 2, none⟩ = some (.int .i64 (opAt sl j).2.2)) := fun W hW j hj => ⟨hs2 (by omega), hs3 W hW j (by omega)⟩
      have HSO := hid_s (And.intro hno hns)
      rw [hno, hns]
      clear ho1 ho2 ho3 hs2 hs3 hio3 his hb3 HIO HSEt hno hns hsl240
      have HS3' : Hid (BySt w w3 P L (.slice x1 y1 z1) (.slice x2 y2 z2) (.slice x3 la.length z3) (lastE t (lastG l (ord.take k)) (wrL (own.take 0)))) := by show BySt _ _ _ _ _ _ _ _; rw [List.take_zero, show wrL [] = [] from rfl, lastE_nil]; exact HS3.out
      go_wp2_with fail
      go_loopw [12, 13] (fun v12 v13 wr => ∃ j : Nat, j ≤ no ∧ v13 = .int .i64 j ∧ v12 = .int .i64 ((expK t last (own.take j)).1.length : Nat) ∧ BySt w wr P L (.slice x1 y1 z1) (.slice x2 y2 z2) (.slice x3 la.length z3) (lastE t (lastG l (ord.take k)) (wrL (own.take j))) ∧ Turns (fun j => j = L) w3 wr) (fun _ v13 _ => no - (intOf v13).toNat)
      case atStart => exact ⟨0, Nat.zero_le _, rfl, rfl, HS3'.out, Turns.refl _ _⟩
      case round =>
        obtain ⟨j, hj, rfl, rfl, hbs, htu⟩ := hrel
        have HBS := hid_s hbs
        have HTU := hid_s htu
        clear hbs htu HS3 HS3' HS2
        obtain ⟨rest, hrest⟩ := expK_prefix t last own j
        rw [← HSEE.out] at hrest
        obtain ⟨kk, hkk⟩ : ∃ n, (expK t last (own.take j)).1.length = n := ⟨_, rfl⟩
        have hkn2 : kk ≤ ns := by rw [← HSO.out.2, hrest, List.length_append, hkk]; omega
        have HKK := hid_s hkk
        rw [hkk]
        clear hrest hkk
        by_cases hlt2 : j < no
        · have hlt2' : (j : Int) < (no : Int) := by omega
          have hj0 : (0 : Int) ≤ (j : Int) := by omega
          have hjn : ¬ (j : Int) < 0 := by omega
          obtain ⟨rfl, e0, e1, e2⟩ := HOO.out wr HTU.out j hlt2
          have hjo : j < own.length := by rw [HSO.out.1]; exact hlt2
          obtain ⟨⟨t', a, x⟩, ho⟩ : ∃ o : Op3, opAt own j = o := ⟨_, rfl⟩
          have hmo : (t', a, x) ∈ own := by rw [← ho]; exact opAt_mem hjo
          obtain ⟨hio, rfl⟩ := HOWL.out.1 _ hmo
          rw [ho] at e0 e1 e2
          simp only at e0 e1 e2
          have HTJ : Hid (own.take (j + 1) = own.take j ++ [(t', a, x)]) := by
            show _ = _
            rw [List.take_succ_eq_append_getElem hjo, ← ho]
            simp [opAt, List.getD, List.getElem?_eq_getElem hjo]
          have hkd := isOp_kinds hio
          simp only at hkd
          have HEX : Hid (expK t' last (own.take (j + 1)) = expStep t' last (expK t' last (own.take j)) (t', a, x)) := by show _ = _; rw [HTJ.out, expK_snoc]
          have HWX : Hid (wrL (own.take (j + 1)) = wrL (own.take j) ++ (if a = 2 then [x] else [])) := by show _ = _; rw [HTJ.out, wrL_snoc]
          have HOA := hid_s ho
          clear ho hmo
          rcases hkd with rfl | rfl | ⟨h34, hx0⟩
          · have hx1 := isOp_pos hio (.inl rfl)
            have hx6 : x ≤ 6 := by simp [isOpB, endsB] at hio; omega
            simp only at hx1
            obtain ⟨m, rfl⟩ : ∃ m : Nat, x = (m : Int) + 1 := ⟨(x - 1).toNat, by omega⟩
            obtain ⟨f, hf⟩ : ∃ f, lastE t' (lastG l (ord.take k)) (wrL (own.take j)) m = f := ⟨_, rfl⟩
            have h1s : (expK t' last (own.take (j + 1))).1 = (expK t' last (own.take j)).1 ++ [(t', (m : Int) + 1, f)] := by
              rw [HEX.out]
              unfold expStep
              rw [if_pos rfl, expK_wr]
              show _ ++ [_] = _
              rw [← hf]
              unfold lastE
              rw [HLA.out]
            obtain ⟨r', hr'⟩ := expK_prefix t' last own (j + 1)
            rw [← HSEE.out, h1s] at hr'
            have hks : kk < ns := by rw [← HSO.out.2, hr', ← HKK.out]; simp
            obtain ⟨rfl, s0, s1, s2⟩ := HSS.out wr HTU.out kk hks
            have hat : opAt sl kk = (t', (m : Int) + 1, f) := by
              rw [hr', ← HKK.out]
              simp [opAt, List.getD]
            rw [hat] at s0 s1 s2
            simp only at s0 s1 s2
            obtain ⟨l0, -⟩ := HBS.out.nums m (by omega)
            rw [hf] at l0
            have HNK : Hid ((expK t' last (own.take (j + 1))).1.length = kk + 1) := by show _ = _; rw [h1s, List.length_append, HKK.out]; rfl
            have HNW : Hid (wrL (own.take (j + 1)) = wrL (own.take j)) := by show _ = _; rw [HWX.out]; simp
            have hm0 : (0 : Int) ≤ (m : Int) := by omega
            have hmn : ¬ (m : Int) < 0 := by omega
            have hm6 : (m : Int) < 6 := by omega
            have hsb : (m : Int) + 1 - 1 = (m : Int) := by omega
            have hwp : IntKind.i64.wrap (m : Int) = (m : Int) := by rw [IntKind.wrap_i64]; omega
            have hk1 : (kk : Int) < (ns : Int) := by omega
            have hk2 : (0 : Int) ≤ (kk : Int) := by omega
            have hk3 : ¬ (kk : Int) < 0 := by omega
            have hgd : decide ((ns : Int) ≤ (kk : Int)) = false := decide_eq_false (by omega)
            clear hio hf h1s hr' hat hx1 hx6
            go_upto_region 15 with (fail)
            go_quiet (fail)
            have HB4 : Hid (BySt w (wr.drewN nq) P L (.slice x1 y1 z1) (.slice x2 y2 z2) (.slice x3 la.length z3) (lastE t' (lastG l (ord.take k)) (wrL (own.take (j + 1))))) := by
              show BySt _ _ _ _ _ _ _ _
              rw [HNW.out]
              exact HBS.out.later (below_drewN (Below.refl _ _) _)
            have HT4 : Hid (Turns (fun j => j = L) w3 (wr.drewN nq)) := HTU.out.then_below (below_drewN (Below.refl _ _) _)
            go_wp2_with fail
            go_roundw
            case rel => exact ⟨j + 1, by omega, by go_num, by rw [HNK.out]; go_num, HB4.out, HT4.out⟩
            case measure => simp [intOf]; omega
          · have hx1 := isOp_pos hio (.inr rfl)
            have hx6 : x ≤ 6 := by simp [isOpB, endsB] at hio; omega
            simp only at hx1
            obtain ⟨m, rfl⟩ : ∃ m : Nat, x = (m : Int) + 1 := ⟨(x - 1).toNat, by omega⟩
            have hm6' : m < 6 := by omega
            have HNK : Hid ((expK t' last (own.take (j + 1))).1.length = kk) := by
              show _ = _
              rw [HEX.out]
              unfold expStep
              rw [if_neg (show ¬ (2 : Int) = 1 by decide), if_pos rfl]
              exact HKK.out
            have HNW : Hid (wrL (own.take (j + 1)) = wrL (own.take j) ++ [(m : Int) + 1]) := by show _ = _; rw [HWX.out]; simp
            obtain ⟨l0, l1⟩ := HBS.out.nums m hm6'
            have hm0 : (0 : Int) ≤ (m : Int) := by omega
            have hmn : ¬ (m : Int) < 0 := by omega
            have hm6 : (m : Int) < 6 := by omega
            have hsb : (m : Int) + 1 - 1 = (m : Int) := by omega
            have hwp : IntKind.i64.wrap (m : Int) = (m : Int) := by rw [IntKind.wrap_i64]; omega
            have HPU : Hid (BySt w (wr.setCell ⟨L, m, none⟩ (.int .i64 t')) P L (.slice x1 y1 z1) (.slice x2 y2 z2) (.slice x3 la.length z3) (lastE t' (lastG l (ord.take k)) (wrL (own.take (j + 1))))) := by
              show BySt _ _ _ _ _ _ _ _
              rw [HNW.out, lastE_snoc]
              exact HBS.out.put hm6' t'
            have HTU2 : Hid (Turns (fun j => j = L) w3 (wr.setCell ⟨L, m, none⟩ (.int .i64 t'))) := by
              refine Turns.setCell HTU.out ?_ _
              exact .inl rfl
            obtain ⟨-, f0, f1, f2⟩ := HOO.out _ HTU2.out j hlt2
            rw [HOA.out] at f0 f1 f2
            simp only at f0 f1 f2
            clear hio hx1 hx6
            go_upto_region 14 with (fail)
            obtain ⟨W5, hQ⟩ : ∃ Z : World, Z = wr.setCell ⟨L, m, none⟩ (.int .i64 t') := ⟨_, rfl⟩
            rw [← hQ] at HPU HTU2 f0 f1 f2 ⊢
            clear hQ l0 l1 e0 e1 e2
            go_wp2_with fail
            go_roundw
            case rel => exact ⟨j + 1, by omega, by go_num, by rw [HNK.out], HPU.out, HTU2.out⟩
            case measure => simp [intOf]; omega
          · have ha1 : (a == 1) = false := by simp; omega
            have ha2 : (a == 2) = false := by simp; omega
            have HNK : Hid ((expK t' last (own.take (j + 1))).1.length = kk) := by
              show _ = _
              rw [HEX.out]
              unfold expStep
              rw [if_neg (by simp; omega), if_neg (by simp; omega)]
              exact HKK.out
            have HNW : Hid (wrL (own.take (j + 1)) = wrL (own.take j)) := by show _ = _; rw [HWX.out, if_neg (by omega)]; simp
            clear hio h34 hx0
            go_wp2_with fail
            go_roundw
            case rel => exact ⟨j + 1, by omega, by go_num, by rw [HNK.out], by rw [HNW.out]; exact HBS.out, HTU.out⟩
            case measure => simp [intOf]; omega
        · have hlt2' : ¬ (j : Int) < (no : Int) := by omega
          obtain rfl : j = no := by omega
          have hke : kk = ns := by
            have h5 := HKK.out
            rw [← HSO.out.1, List.take_length, ← HSEE.out] at h5
            exact h5.symm.trans HSO.out.2
          subst hke
          have HFN : Hid (BySt w wr P L (.slice x1 y1 z1) (.slice x2 y2 z2) (.slice x3 la.length z3) (lastG l (ord.take (k + 1)))) := by
            have h5 := HBS.out
            rw [← HSO.out.1, List.take_length, HOWL.out.2.2, lastE_all] at h5
            show BySt _ _ _ _ _ _ _ _
            rw [takeB hlt, HTE.out]
            exact h5
          go_wp2_with fail
          go_roundw
          case rel => exact ⟨k + 1, by omega, by go_num, HFN.out⟩
          case measure => simp [intOf]; omega
    · have hlt' : ¬ (k : Int) < (ord.length : Int) := by omega
      obtain rfl : k = ord.length := by omega
      obtain ⟨q0, q1, q2⟩ := HSK.out.box.cells
      have HSI : Hid (Calls Try.prog 19 #[.slice x3 la.length z3, .slice (some ⟨L, 0, none⟩) 6 6] wr fun e w' => e = .returned (.bool true) ∧ Below wr.heap.size wr w') := by
        refine same_ints la _ _ wr (H3.out.below HSK.out.old (Nat.le_refl _)) ?_ (by rw [HL6.out]; omega)
        have h5 : NumsAt wr L la.length (lastG l ord) := by have := HSK.out.nums; rw [List.take_length] at this; rw [HL6.out]; exact this
        have h6 := h5.ints HSK.out.ltL fun j hj => by
          rw [HBY.out.2]
          rw [HL6.out] at hj
          simp [hj]
        rw [HL6.out] at h6
        exact h6
      go_wp2_with fail
      refine HSI.out.mono ?_
      rintro e w2 ⟨rfl, hb2⟩
      have HB2 : Hid (Below w.heap.size w w2) := HSK.out.old.trans (hb2.mono HSK.out.old.size)
      clear hb2
      go_wp2_with fail
      go_ret
      exact ⟨rfl, HB2.out⟩
end Go.Proofs.Ytccjognnehoodag
