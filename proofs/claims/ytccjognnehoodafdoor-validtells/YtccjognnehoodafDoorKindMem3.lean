/-
  PROVED HERE: one op's turn in a run of deals in memory (laneref2.Run): its op and its deal lie in boxes beside the run; what the run is when the deal has seen or written something more, is done, or stays, and is laid back.
  Conditions: none.
-/
import Derived.Test.YtccjognnehoodafDoorKindMem2
namespace Go.Proofs.YtccjognnehoodafDoor
open Go.RowKit

theorem seen_new (w : World) (x : Op3) (t : TypeId) : ∀ j u, (flat [x])[j]? = some u → (w.alloc (.cells #[.int .i64 x.1, .int .i64 x.2.1, .int .i64 x.2.2] t)).cell? ((⟨w.heap.size, 0, none⟩ : Addr).add j) = some u := by
  intro j u hj
  rw [Addr.add_lit]
  have hj3 : j < 3 := by simpa [flat] using (List.getElem?_eq_some_iff.1 hj).1
  rcases (show j = 0 ∨ j = 1 ∨ j = 2 by omega) with rfl | rfl | rfl
  all_goals
    simp [flat] at hj
    subst hj
    simp
theorem deal_new (w : World) (a b c : Int) (sv wv : Value) (t : TypeId) : ∀ j u, ([.int .i64 a, .int .i64 b, .int .i64 c, sv, wv] : List Value)[j]? = some u → (w.alloc (.cells #[.int .i64 a, .int .i64 b, .int .i64 c, sv, wv] t)).cell? ((⟨w.heap.size, 0, none⟩ : Addr).add j) = some u := by
  intro j u hj
  rw [Addr.add_lit]
  have hj3 : j < 5 := by simpa using (List.getElem?_eq_some_iff.1 hj).1
  rcases (show j = 0 ∨ j = 1 ∨ j = 2 ∨ j = 3 ∨ j = 4 by omega) with rfl | rfl | rfl | rfl | rfl
  all_goals
    simp at hj
    subst hj
    simp
/-- An op's turn. -/
structure Rnd (w0 V : World) (s : Kst) (at_ : Int) (d : Nat) (c : KLay) (Q D : Nat) (x : Op3) (r : Dl) (sv wv dv : Value) : Prop where
  own : KOwn w0 V (stayStep s at_ (d : Int)) c
  hd : d < 7
  nd : ∀ t ∈ s.done, t ≠ (d : Int)
  now : nowK s at_ (d : Int) = r
  hsv : c.sv (d : Int) = sv
  hwv : c.wv (d : Int) = wv
  hdv : c.dv = dv
  box : OpBx V Q x
  dl : DlBx V D (d : Int) r sv wv
  nQ : ¬ kFeet c Q
  nD : ¬ kFeet c D
  new : w0.heap.size ≤ D
  DQ : D ≠ Q
/-- The deal is ready to be laid back. -/
structure Ready (w0 X : World) (s' : Kst) (c : KLay) (Q D d : Nat) (t : Int) (b e : Int) (sv wv dv : Value) : Prop where
  cells : X.cell? ⟨D, 0, none⟩ = some (.int .i64 (d : Int)) ∧ X.cell? ⟨D, 1, none⟩ = some (.int .i64 b) ∧ X.cell? ⟨D, 2, none⟩ = some (.int .i64 e) ∧ X.cell? ⟨D, 3, none⟩ = some sv ∧ X.cell? ⟨D, 4, none⟩ = some wv
  box : X.cell? ⟨Q, 0, none⟩ = some (.int .i64 t)
  slots : ∃ x0 x1 x2 x3 x4, X.cell? ⟨c.O, d * 5, none⟩ = some x0 ∧ X.cell? ⟨c.O, d * 5 + 1, none⟩ = some x1 ∧ X.cell? ⟨c.O, d * 5 + 2, none⟩ = some x2 ∧ X.cell? ⟨c.O, d * 5 + 3, none⟩ = some x3 ∧ X.cell? ⟨c.O, d * 5 + 4, none⟩ = some x4
  thaw : ∀ q, X.frozen? ⟨c.O, q, none⟩ = false
  fin : ∃ c2, KOwn w0 (set5 X c.O d (d : Int) b e sv wv) s' c2 ∧ c2.dv = dv ∧ c2.lv = c.lv ∧ c2.O = c.O ∧ c2.B = c.B
section
variable {w0 V V1 w2 : World} {s : Kst} {at_ : Int} {d : Nat} {c : KLay} {Q D : Nat} {x : Op3} {r : Dl} {sv wv dv v2 : Value}
theorem Rnd.below (h : Rnd w0 V s at_ d c Q D x r sv wv dv) (hb : Below V.heap.size V V1) : Rnd w0 V1 s at_ d c Q D x r sv wv dv :=
  ⟨h.own.below hb, h.hd, h.nd, h.now, h.hsv, h.hwv, h.hdv, h.box.below hb, h.dl.below hb, h.nQ, h.nD, h.new, h.DQ⟩
theorem Rnd.of (h : Rnd w0 V s at_ d c Q D x r sv wv dv) : (stayStep s at_ (d : Int)).of (d : Int) = r := (stay_of _ _ _).trans h.now
theorem Rnd.seenR (h : Rnd w0 V s at_ d c Q D x r sv wv dv) : V.ownsRow 0 63 3 sv r.seen.length (flat r.seen) := by have := h.own.run.seen d h.hd; rw [h.of, h.hsv] at this; exact this
theorem Rnd.wroteR (h : Rnd w0 V s at_ d c Q D x r sv wv dv) : V.ownsRow 0 3 1 wv r.wrote.length (r.wrote.map (Value.int .i64)) := by have := h.own.run.wrote d h.hd; rw [h.of, h.hwv] at this; exact this
theorem Rnd.doneR (h : Rnd w0 V s at_ d c Q D x r sv wv dv) : V.ownsRow 0 39 5 dv s.done.length (flatD (stayStep s at_ (d : Int)) c s.done) := by have := h.own.run.done; rw [h.hdv] at this; exact this
theorem Rnd.flatR (h : Rnd w0 V s at_ d c Q D x r sv wv dv) (r' : Dl) (sv' wv' : Value) : flatD { stayStep s at_ (d : Int) with of := setF (stayStep s at_ (d : Int)).of (d : Int) r' } { c with sv := setF c.sv (d : Int) sv', wv := setF c.wv (d : Int) wv' } s.done = flatD (stayStep s at_ (d : Int)) c s.done :=
  flatD_same fun u hu => ⟨setF_other _ _ (h.nd u hu), setF_other _ _ (h.nd u hu), setF_other _ _ (h.nd u hu)⟩
/-- What lies in the array's block. -/
theorem slots_of {X : World} {s' : Kst} {c' : KLay} {O : Nat} (hO : X.heap[O]? = some (.cells (cells35 s' c') 56 (0, 0))) (hd : d < 7) : (∃ x0 x1 x2 x3 x4, X.cell? ⟨O, d * 5, none⟩ = some x0 ∧ X.cell? ⟨O, d * 5 + 1, none⟩ = some x1 ∧ X.cell? ⟨O, d * 5 + 2, none⟩ = some x2 ∧ X.cell? ⟨O, d * 5 + 3, none⟩ = some x3 ∧ X.cell? ⟨O, d * 5 + 4, none⟩ = some x4) ∧ ∀ q, X.frozen? ⟨O, q, none⟩ = false := by
  have hcc : ∀ q, q < 35 → X.cell? ⟨O, q, none⟩ = some (dPart s' c' q) := fun q hq => by rw [cell_of_row _ O _ _ _ _ hO]; exact cells35_at _ _ hq
  exact ⟨⟨_, _, _, _, _, hcc _ (by omega), hcc _ (by omega), hcc _ (by omega), hcc _ (by omega), hcc _ (by omega)⟩, fun q => by simp [World.frozen?, hO]⟩
/-- The deal's box is set at one cell, one of its rows, or that of those that are done, having turned. -/
theorem Rnd.ready {n m : Nat} {u : Value} {r' : Dl} {sv' wv' dv' : Value} {dn : List Int} (h : Rnd w0 V s at_ d c Q D x r sv wv dv) (hm : m = 2 ∨ m = d + 4 ∨ m = d + 11) (ht : Turns (fun j => kPart c m j) V w2) (hx : x.1 = (d : Int))
    (hD : (w2.setCell ⟨D, n, none⟩ u).heap[D]? = some (.cells #[.int .i64 (d : Int), .int .i64 r'.began, .int .i64 r'.ended, sv', wv'] 39 (0, 0)))
    (hsv : w2.ownsRow 0 63 3 sv' r'.seen.length (flat r'.seen)) (hwv : w2.ownsRow 0 3 1 wv' r'.wrote.length (r'.wrote.map (Value.int .i64))) (hdv : w2.ownsRow 0 39 5 dv' dn.length (flatD { stayStep s at_ (d : Int) with of := setF (stayStep s at_ (d : Int)).of (d : Int) r' } { c with sv := setF c.sv (d : Int) sv', wv := setF c.wv (d : Int) wv' } dn))
    (h2 : ∀ j, dv'.ownBlock = some j → dv.ownBlock = some j ∨ (m = 2 ∧ V.heap.size ≤ j)) (h4 : ∀ j, sv'.ownBlock = some j → sv.ownBlock = some j ∨ (m = d + 4 ∧ V.heap.size ≤ j)) (h11 : ∀ j, wv'.ownBlock = some j → wv.ownBlock = some j ∨ (m = d + 11 ∧ V.heap.size ≤ j)) :
    Ready w0 (w2.setCell ⟨D, n, none⟩ u) { s with of := setF s.of (d : Int) r', beg := setF s.beg (d : Int) true, done := dn } c Q D d (d : Int) r'.began r'.ended sv' wv' dv' := by
  have hd := h.hd
  have hm18 : m < 18 := by omega
  have hDn : ¬ kPart c m D := fun hk => h.nD ⟨m, hm18, hk⟩
  have hQn : ¬ kPart c m Q := fun hk => h.nQ ⟨m, hm18, hk⟩
  have hOn : ¬ kPart c m c.O := fun hk => h.own.run.apart 0 m c.O (by omega) hm18 (by omega) rfl hk
  have hOD : ¬ c.O = D := fun e => h.nD ⟨0, by omega, e.symm⟩
  have hDl := h.dl.lt
  have hO2 : (w2.setCell ⟨D, n, none⟩ u).heap[c.O]? = some (.cells (cells35 (stayStep s at_ (d : Int)) c) 56 (0, 0)) := by
    rw [Below.heap_setCell _ _ _ _ hOD]
    exact (ht.block c.O (h.own.run.part_lt 0 _ (by omega) rfl) hOn).trans h.own.run.blkO
  obtain ⟨s1, s2⟩ := slots_of hO2 hd
  have hQb := (h.box.turn ht hQn).turn (turns_cell w2 D n u) (fun e => h.DQ e.symm)
  have hvs : ∀ v : Value, (∀ j, v.ownBlock = some j → (∃ q, q < 18 ∧ kPart c q j) ∨ V.heap.size ≤ j) → ¬ v.ownBlock = some D := fun v hv e => by
    rcases hv D e with ⟨q, hq, hk⟩ | h5
    · exact h.nD ⟨q, hq, hk⟩
    · omega
  have hs' : ∀ j, sv.ownBlock = some j → kPart c (d + 4) j := fun j hj => (kPart_seen c hd j).2 (by rw [h.hsv]; exact hj)
  have hw' : ∀ j, wv.ownBlock = some j → kPart c (d + 11) j := fun j hj => (kPart_wrote c d j).2 (by rw [h.hwv]; exact hj)
  have hd' : ∀ j, dv.ownBlock = some j → kPart c 2 j := fun j hj => by show c.dv.ownBlock = some j; rw [h.hdv]; exact hj
  have hsz : (V.setCell ⟨D, n, none⟩ u).heap.size = V.heap.size := by simp
  obtain ⟨b1, b2, b3⟩ := (h.own.box (n := n) (u := u) h.nD h.new).run.put (w0 := w2.setCell ⟨D, n, none⟩ u) (d := d) (m := m) (r := r') (sv := sv') (wv := wv') (dn := dn) (dv := dv') hd (setF_same _ _ _) hm (ht.beside hDl hDn)
    (own_cell hsv (hvs sv' fun j hj => (h4 j hj).elim (fun e => .inl ⟨d + 4, by omega, hs' j e⟩) fun e => .inr e.2)) (own_cell hwv (hvs wv' fun j hj => (h11 j hj).elim (fun e => .inl ⟨d + 11, by omega, hw' j e⟩) fun e => .inr e.2)) (own_cell hdv (hvs dv' fun j hj => (h2 j hj).elim (fun e => .inl ⟨2, by omega, hd' j e⟩) fun e => .inr e.2))
    (fun j hj => (h2 j hj).elim (fun e => .inl (hd' j e)) fun e => .inr ⟨e.1, by rw [hsz]; exact e.2⟩) (fun j hj => (h4 j hj).elim (fun e => .inl (by rw [h.hsv]; exact e)) fun e => .inr ⟨e.1, by rw [hsz]; exact e.2⟩) (fun j hj => (h11 j hj).elim (fun e => .inl (by rw [h.hwv]; exact e)) fun e => .inr ⟨e.1, by rw [hsz]; exact e.2⟩)
  have b4 := (h.own.box (n := n) (u := u) h.nD h.new).to b1 b2 b3
  rw [stay_put] at b4
  refine ⟨⟨?_, ?_, ?_, ?_, ?_⟩, by rw [← hx]; exact hQb.1, s1, s2, _, b4, rfl, rfl, rfl, rfl⟩ <;> rw [cell_of_row _ D _ _ _ _ hD] <;> rfl
/-- The deal has seen something more. -/
theorem Rnd.saw {y : Op3} (h : Rnd w0 V s at_ d c Q D x r sv wv dv) (hx : x.1 = (d : Int)) (ht : Turns (fun j => sv.ownBlock = some j) V w2) (hv : w2.ownsRow 0 63 3 v2 (r.seen.length + 1) (flat r.seen ++ flat [y])) (hap : ∀ j, v2.ownBlock = some j → sv.ownBlock = some j ∨ V.heap.size ≤ j) :
    w2.cell? ⟨D, 3, none⟩ = some sv ∧ w2.frozen? ⟨D, 3, none⟩ = false ∧ Ready w0 (w2.setCell ⟨D, 3, none⟩ v2) { s with of := setF s.of (d : Int) { r with seen := r.seen ++ [y] }, beg := setF s.beg (d : Int) true, done := s.done } c Q D d (d : Int) r.began r.ended v2 wv dv := by
  have hd := h.hd
  have hs' : ∀ j, sv.ownBlock = some j → kPart c (d + 4) j := fun j hj => (kPart_seen c hd j).2 (by rw [h.hsv]; exact hj)
  have ht' : Turns (fun j => kPart c (d + 4) j) V w2 := ht.mono fun j _ hj => hs' j hj
  have hDn : ¬ kPart c (d + 4) D := fun hk => h.nD ⟨d + 4, by omega, hk⟩
  have hb2 : w2.heap[D]? = some (.cells #[.int .i64 (d : Int), .int .i64 r.began, .int .i64 r.ended, sv, wv] 39 (0, 0)) := (ht'.block D h.dl.lt hDn).trans h.dl
  refine ⟨by rw [cell_of_row w2 D _ _ _ _ hb2]; rfl, by simp [World.frozen?, hb2], ?_⟩
  refine h.ready (r' := { r with seen := r.seen ++ [y] }) (m := d + 4) (dn := s.done) (.inr (.inl rfl)) ht' hx (by rw [block_set hb2]; rfl) (by show World.ownsRow _ _ _ _ _ (r.seen ++ [y]).length (flat (r.seen ++ [y])); rw [List.length_append, flat_append]; exact hv) ?_ ?_ (fun j hj => .inl hj) (fun j hj => (hap j hj).elim .inl fun e => .inr ⟨rfl, e⟩) (fun j hj => .inl hj)
  · exact ht'.own h.wroteR fun j hj hk => h.own.run.apart (d + 11) (d + 4) j (by omega) (by omega) (by omega) ((kPart_wrote c d j).2 (by rw [h.hwv]; exact hj)) hk
  · rw [h.flatR]
    exact ht'.own h.doneR fun j hj hk => h.own.run.apart 2 (d + 4) j (by omega) (by omega) (by omega) (by show c.dv.ownBlock = some j; rw [h.hdv]; exact hj) hk
/-- The deal has written something more. -/
theorem Rnd.wrote {y : Int} (h : Rnd w0 V s at_ d c Q D x r sv wv dv) (hx : x.1 = (d : Int)) (ht : Turns (fun j => wv.ownBlock = some j) V w2) (hv : w2.ownsRow 0 3 1 v2 (r.wrote.length + 1) (r.wrote.map (Value.int .i64) ++ [.int .i64 y])) (hap : ∀ j, v2.ownBlock = some j → wv.ownBlock = some j ∨ V.heap.size ≤ j) :
    w2.cell? ⟨D, 4, none⟩ = some wv ∧ w2.frozen? ⟨D, 4, none⟩ = false ∧ Ready w0 (w2.setCell ⟨D, 4, none⟩ v2) { s with of := setF s.of (d : Int) { r with wrote := r.wrote ++ [y] }, beg := setF s.beg (d : Int) true, done := s.done } c Q D d (d : Int) r.began r.ended sv v2 dv := by
  have hd := h.hd
  have hw' : ∀ j, wv.ownBlock = some j → kPart c (d + 11) j := fun j hj => (kPart_wrote c d j).2 (by rw [h.hwv]; exact hj)
  have ht' : Turns (fun j => kPart c (d + 11) j) V w2 := ht.mono fun j _ hj => hw' j hj
  have hDn : ¬ kPart c (d + 11) D := fun hk => h.nD ⟨d + 11, by omega, hk⟩
  have hb2 : w2.heap[D]? = some (.cells #[.int .i64 (d : Int), .int .i64 r.began, .int .i64 r.ended, sv, wv] 39 (0, 0)) := (ht'.block D h.dl.lt hDn).trans h.dl
  refine ⟨by rw [cell_of_row w2 D _ _ _ _ hb2]; rfl, by simp [World.frozen?, hb2], ?_⟩
  refine h.ready (r' := { r with wrote := r.wrote ++ [y] }) (m := d + 11) (dn := s.done) (.inr (.inr rfl)) ht' hx (by rw [block_set hb2]; rfl) ?_ (by show World.ownsRow _ _ _ _ _ (r.wrote ++ [y]).length ((r.wrote ++ [y]).map (Value.int .i64)); rw [List.length_append, List.map_append]; exact hv) ?_ (fun j hj => .inl hj) (fun j hj => .inl hj) (fun j hj => (hap j hj).elim .inl fun e => .inr ⟨rfl, e⟩)
  · exact ht'.own h.seenR fun j hj hk => h.own.run.apart (d + 4) (d + 11) j (by omega) (by omega) (by omega) ((kPart_seen c hd j).2 (by rw [h.hsv]; exact hj)) hk
  · rw [h.flatR]
    exact ht'.own h.doneR fun j hj hk => h.own.run.apart 2 (d + 11) j (by omega) (by omega) (by omega) (by show c.dv.ownBlock = some j; rw [h.hdv]; exact hj) hk
/-- The deal stays as it is (its box is set as it was). -/
theorem Rnd.stays (h : Rnd w0 V s at_ d c Q D x r sv wv dv) (hx : x.1 = (d : Int)) : Ready w0 V { s with of := setF s.of (d : Int) r, beg := setF s.beg (d : Int) true, done := s.done } c Q D d (d : Int) r.began r.ended sv wv dv := by
  have hd := h.hd
  obtain ⟨s1, s2⟩ := slots_of h.own.run.blkO hd
  obtain ⟨b1, b2, b3⟩ := h.own.run.put (w0 := V) (d := d) (m := 2) (r := r) (sv := sv) (wv := wv) (dn := s.done) (dv := dv) hd (setF_same _ _ _) (.inl rfl) (Turns.refl _ _) h.seenR h.wroteR (by rw [h.flatR]; exact h.doneR) (fun j hj => .inl (by rw [h.hdv]; exact hj)) (fun j hj => .inl (by rw [h.hsv]; exact hj)) (fun j hj => .inl (by rw [h.hwv]; exact hj))
  have b4 := h.own.to b1 b2 b3
  rw [stay_put] at b4
  exact ⟨h.dl.cells, by rw [← hx]; exact h.box.1, s1, s2, _, b4, rfl, rfl, rfl, rfl⟩
/-- The deal has ended: its box says when. -/
theorem Rnd.ended (h : Rnd w0 V s at_ d c Q D x r sv wv dv) : DlBx (V.setCell ⟨D, 2, none⟩ (.int .i64 at_)) D (d : Int) { r with ended := at_ } sv wv ∧ OpBx (V.setCell ⟨D, 2, none⟩ (.int .i64 at_)) Q x ∧ (V.setCell ⟨D, 2, none⟩ (.int .i64 at_)).ownsRow 0 39 5 dv s.done.length (flatD (stayStep s at_ (d : Int)) c s.done) := by
  have hb : V.heap[D]? = some (.cells #[.int .i64 (d : Int), .int .i64 r.began, .int .i64 r.ended, sv, wv] 39 (0, 0)) := h.dl
  refine ⟨?_, h.box.turn (turns_cell V D 2 _) fun e => h.DQ e.symm, own_cell h.doneR fun e => h.nD ⟨2, by omega, by show c.dv.ownBlock = some D; rw [h.hdv]; exact e⟩⟩
  show (V.setCell ⟨D, 2, none⟩ (.int .i64 at_)).heap[D]? = _
  rw [block_set hb]
  rfl
/-- The deal is done: one more in the row of those that are. -/
theorem Rnd.done {ob : Obj} (h : Rnd w0 V s at_ d c Q D x r sv wv dv) (hx : x.1 = (d : Int)) (hg : ((V.setCell ⟨D, 2, none⟩ (.int .i64 at_)).alloc ob).grownBy w2 dv.ownBlock) (hv : w2.ownsRow 0 39 5 v2 (s.done.length + 1) (flatD (stayStep s at_ (d : Int)) c s.done ++ [.int .i64 (d : Int), .int .i64 r.began, .int .i64 at_, sv, wv])) (hap : ∀ j, v2.ownBlock = some j → dv.ownBlock = some j ∨ ((V.setCell ⟨D, 2, none⟩ (.int .i64 at_)).alloc ob).heap.size ≤ j) :
    Ready w0 w2 { s with of := setF s.of (d : Int) { r with ended := at_ }, beg := setF s.beg (d : Int) true, done := s.done ++ [(d : Int)] } c Q D d (d : Int) r.began at_ sv wv v2 := by
  have hd := h.hd
  obtain ⟨e1, e2, e3⟩ := h.ended
  have hk := h.own.box (n := 2) (u := .int .i64 at_) h.nD h.new
  have hd' : ∀ j, dv.ownBlock = some j → kPart c 2 j := fun j hj => by show c.dv.ownBlock = some j; rw [h.hdv]; exact hj
  have htu : Turns (fun j => kPart c 2 j) (V.setCell ⟨D, 2, none⟩ (.int .i64 at_)) w2 := (((Turns.refl (fun j => dv.ownBlock = some j) (V.setCell ⟨D, 2, none⟩ (.int .i64 at_))).alloc ob).grown hg fun j hj => .inl hj).mono fun j _ hj => hd' j hj
  have hDn : ¬ kPart c 2 D := fun hk => h.nD ⟨2, by omega, hk⟩
  have hQn : ¬ kPart c 2 Q := fun hk => h.nQ ⟨2, by omega, hk⟩
  have hOn : ¬ kPart c 2 c.O := fun hk => h.own.run.apart 0 2 c.O (by omega) (by omega) (by omega) rfl hk
  have hO2 : w2.heap[c.O]? = some (.cells (cells35 (stayStep s at_ (d : Int)) c) 56 (0, 0)) := (htu.block c.O (hk.run.part_lt 0 _ (by omega) rfl) hOn).trans hk.run.blkO
  obtain ⟨s1, s2⟩ := slots_of hO2 hd
  have hs0 : (V.setCell ⟨D, 2, none⟩ (.int .i64 at_)).ownsRow 0 63 3 sv r.seen.length (flat r.seen) := own_cell h.seenR fun e => h.nD ⟨d + 4, by omega, (kPart_seen c hd D).2 (by rw [h.hsv]; exact e)⟩
  have hw0 : (V.setCell ⟨D, 2, none⟩ (.int .i64 at_)).ownsRow 0 3 1 wv r.wrote.length (r.wrote.map (Value.int .i64)) := own_cell h.wroteR fun e => h.nD ⟨d + 11, by omega, (kPart_wrote c d D).2 (by rw [h.hwv]; exact e)⟩
  obtain ⟨b1, b2, b3⟩ := hk.run.put (w0 := w2) (d := d) (m := 2) (r := { r with ended := at_ }) (sv := sv) (wv := wv) (dn := s.done ++ [(d : Int)]) (dv := v2) hd (setF_same _ _ _) (.inl rfl) htu
    (htu.own hs0 fun j hj hkk => h.own.run.apart (d + 4) 2 j (by omega) (by omega) (by omega) ((kPart_seen c hd j).2 (by rw [h.hsv]; exact hj)) hkk) (htu.own hw0 fun j hj hkk => h.own.run.apart (d + 11) 2 j (by omega) (by omega) (by omega) ((kPart_wrote c d j).2 (by rw [h.hwv]; exact hj)) hkk)
    (by
      rw [flatD_append, List.length_append, h.flatR]
      have : flatD { stayStep s at_ (d : Int) with of := setF (stayStep s at_ (d : Int)).of (d : Int) { r with ended := at_ } } { c with sv := setF c.sv (d : Int) sv, wv := setF c.wv (d : Int) wv } [(d : Int)] = [.int .i64 (d : Int), .int .i64 r.began, .int .i64 at_, sv, wv] := by
        unfold flatD
        simp [setF_same]
      rw [this]
      exact hv) (fun j hj => (hap j hj).elim (fun e => .inl (hd' j e)) fun e => .inr ⟨rfl, by simp at e ⊢; omega⟩) (fun j hj => .inl (by rw [h.hsv]; exact hj)) (fun j hj => .inl (by rw [h.hwv]; exact hj))
  have b4 := hk.to b1 b2 b3
  rw [stay_put] at b4
  exact ⟨(e1.turn htu hDn).cells, by rw [← hx]; exact (e2.turn htu hQn).1, s1, s2, _, b4, rfl, rfl, rfl, rfl⟩
end
end Go.Proofs.YtccjognnehoodafDoor
