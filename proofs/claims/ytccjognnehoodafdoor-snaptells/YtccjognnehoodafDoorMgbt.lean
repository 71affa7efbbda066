/-
  PROVED HERE: one op's turn in a run of deals in memory (laneref2.Run): its op and its deal lie in boxes beside the run; what the run is when the deal has seen or written something more, is done, or stays, and is laid back.
  Conditions: none.
  PROVED HERE: laneref2.Run's loop over those that are done, at a Commit, of a kind below 4: did one that is done since write what the deal read, or writes?
  Conditions: the lists are short.
-/
import Derived.Test.YtccjognnehoodafDoorMgbs
import Derived.Test.YtccjognnehoodafDoorMgar
import Derived.Deep.CutRange
import Derived.BigQuiet
namespace Go.Proofs.YtccjognnehoodafDoor
open Go.RowKit

theorem seen_new (w : World) (x : Op3) (t : TypeId) : ∀ j u, (flat [x])[j]? = some u → (w.alloc (.cells #[.int .i64 x.1, .int .i64 x.2.1, .int .i64 x.2.2] t)).cell? ((⟨w.heap.size, 0, none⟩ : Addr).add j) = some u := by
  intro j u hj
  rw [Addr.add_lit]
  have hj3 : j < 3 := by simpa [flat] using (List.getElem?_eq_some_iff.1 hj).1
  rcases (show j = 0 ∨ j = 1 ∨ j = 2 by omega) with rfl | rfl | rfl
  all_goals
    simp [flat] at hj
    subst hj
    simp
theorem deal_new (w : World) (a b c : Int) (sv wv : Value) (t : TypeId) : ∀ j u, ([.int .i64 a, .int .i64 b, .int .i64 c, sv, wv] : List Value)[j]? = some u → (w.alloc (.cells #[.int .i64 a, .int .i64 b, .int .i64 c, sv, wv] t)).cell? ((⟨w.heap.size, 0, none⟩ : Addr).add j) = some u := by
  intro j u hj
  rw [Addr.add_lit]
  have hj3 : j < 5 := by simpa using (List.getElem?_eq_some_iff.1 hj).1
  rcases (show j = 0 ∨ j = 1 ∨ j = 2 ∨ j = 3 ∨ j = 4 by omega) with rfl | rfl | rfl | rfl | rfl
  all_goals
    simp at hj
    subst hj
    simp
/-- An op's turn. -/
structure Rnd (w0 V : World) (s : Kst) (at_ : Int) (d : Nat) (c : KLay) (Q D : Nat) (x : Op3) (r : Dl) (sv wv dv : Value) : Prop where
  own : KOwn w0 V (stayStep s at_ (d : Int)) c
  hd : d < 7
  nd : ∀ t ∈ s.done, t ≠ (d : Int)
  now : nowK s at_ (d : Int) = r
  hsv : c.sv (d : Int) = sv
  hwv : c.wv (d : Int) = wv
  hdv : c.dv = dv
  box : OpBx V Q x
  dl : DlBx V D (d : Int) r sv wv
  nQ : ¬ kFeet c Q
  nD : ¬ kFeet c D
  new : w0.heap.size ≤ D
  DQ : D ≠ Q
/-- The deal is ready to be laid back. -/
structure Ready (w0 X : World) (s' : Kst) (c : KLay) (Q D d : Nat) (t : Int) (b e : Int) (sv wv dv : Value) : Prop where
  cells : X.cell? ⟨D, 0, none⟩ = some (.int .i64 (d : Int)) ∧ X.cell? ⟨D, 1, none⟩ = some (.int .i64 b) ∧ X.cell? ⟨D, 2, none⟩ = some (.int .i64 e) ∧ X.cell? ⟨D, 3, none⟩ = some sv ∧ X.cell? ⟨D, 4, none⟩ = some wv
  box : X.cell? ⟨Q, 0, none⟩ = some (.int .i64 t)
  slots : ∃ x0 x1 x2 x3 x4, X.cell? ⟨c.O, d * 5, none⟩ = some x0 ∧ X.cell? ⟨c.O, d * 5 + 1, none⟩ = some x1 ∧ X.cell? ⟨c.O, d * 5 + 2, none⟩ = some x2 ∧ X.cell? ⟨c.O, d * 5 + 3, none⟩ = some x3 ∧ X.cell? ⟨c.O, d * 5 + 4, none⟩ = some x4
  thaw : ∀ q, X.frozen? ⟨c.O, q, none⟩ = false
  fin : ∃ c2, KOwn w0 (set5 X c.O d (d : Int) b e sv wv) s' c2 ∧ c2.dv = dv ∧ c2.lv = c.lv ∧ c2.O = c.O ∧ c2.B = c.B
section
variable {w0 V V1 w2 : World} {s : Kst} {at_ : Int} {d : Nat} {c : KLay} {Q D : Nat} {x : Op3} {r : Dl} {sv wv dv v2 : Value}
theorem Rnd.below (h : Rnd w0 V s at_ d c Q D x r sv wv dv) (hb : Below V.heap.size V V1) : Rnd w0 V1 s at_ d c Q D x r sv wv dv :=
  ⟨h.own.below hb, h.hd, h.nd, h.now, h.hsv, h.hwv, h.hdv, h.box.below hb, h.dl.below hb, h.nQ, h.nD, h.new, h.DQ⟩
theorem Rnd.of (h : Rnd w0 V s at_ d c Q D x r sv wv dv) : (stayStep s at_ (d : Int)).of (d : Int) = r := (stay_of _ _ _).trans h.now
theorem Rnd.seenR (h : Rnd w0 V s at_ d c Q D x r sv wv dv) : V.ownsRow 0 63 3 sv r.seen.length (flat r.seen) := by have := h.own.run.seen d h.hd; rw [h.of, h.hsv] at this; exact this
theorem Rnd.wroteR (h : Rnd w0 V s at_ d c Q D x r sv wv dv) : V.ownsRow 0 3 1 wv r.wrote.length (r.wrote.map (Value.int .i64)) := by have := h.own.run.wrote d h.hd; rw [h.of, h.hwv] at this; exact this
theorem Rnd.doneR (h : Rnd w0 V s at_ d c Q D x r sv wv dv) : V.ownsRow 0 39 5 dv s.done.length (flatD (stayStep s at_ (d : Int)) c s.done) := by have := h.own.run.done; rw [h.hdv] at this; exact this
theorem Rnd.flatR (h : Rnd w0 V s at_ d c Q D x r sv wv dv) (r' : Dl) (sv' wv' : Value) : flatD { stayStep s at_ (d : Int) with of := setF (stayStep s at_ (d : Int)).of (d : Int) r' } { c with sv := setF c.sv (d : Int) sv', wv := setF c.wv (d : Int) wv' } s.done = flatD (stayStep s at_ (d : Int)) c s.done :=
  flatD_same fun u hu => ⟨setF_other _ _ (h.nd u hu), setF_other _ _ (h.nd u hu), setF_other _ _ (h.nd u hu)⟩
/-- What lies in the array's block. -/
theorem slots_of {X : World} {s' : Kst} {c' : KLay} {O : Nat} (hO : X.heap[O]? = some (.cells (cells35 s' c') 56 (0, 0))) (hd : d < 7) : (∃ x0 x1 x2 x3 x4, X.cell? ⟨O, d * 5, none⟩ = some x0 ∧ X.cell? ⟨O, d * 5 + 1, none⟩ = some x1 ∧ X.cell? ⟨O, d * 5 + 2, none⟩ = some x2 ∧ X.cell? ⟨O, d * 5 + 3, none⟩ = some x3 ∧ X.cell? ⟨O, d * 5 + 4, none⟩ = some x4) ∧ ∀ q, X.frozen? ⟨O, q, none⟩ = false := by
  have hcc : ∀ q, q < 35 → X.cell? ⟨O, q, none⟩ = some (dPart s' c' q) := fun q hq => by rw [cell_of_row _ O _ _ _ _ hO]; exact cells35_at _ _ hq
  exact ⟨⟨_, _, _, _, _, hcc _ (by omega), hcc _ (by omega), hcc _ (by omega), hcc _ (by omega), hcc _ (by omega)⟩, fun q => by simp [World.frozen?, hO]⟩
/-- The deal's box is set at one cell, one of its rows, or that of those that are done, having turned. -/
theorem Rnd.ready {n m : Nat} {u : Value} {r' : Dl} {sv' wv' dv' : Value} {dn : List Int} (h : Rnd w0 V s at_ d c Q D x r sv wv dv) (hm : m = 2 ∨ m = d + 4 ∨ m = d + 11) (ht : Turns (fun j => kPart c m j) V w2) (hx : x.1 = (d : Int))
    (hD : (w2.setCell ⟨D, n, none⟩ u).heap[D]? = some (.cells #[.int .i64 (d : Int), .int .i64 r'.began, .int .i64 r'.ended, sv', wv'] 39 (0, 0)))
    (hsv : w2.ownsRow 0 63 3 sv' r'.seen.length (flat r'.seen)) (hwv : w2.ownsRow 0 3 1 wv' r'.wrote.length (r'.wrote.map (Value.int .i64))) (hdv : w2.ownsRow 0 39 5 dv' dn.length (flatD { stayStep s at_ (d : Int) with of := setF (stayStep s at_ (d : Int)).of (d : Int) r' } { c with sv := setF c.sv (d : Int) sv', wv := setF c.wv (d : Int) wv' } dn))
    (h2 : ∀ j, dv'.ownBlock = some j → dv.ownBlock = some j ∨ (m = 2 ∧ V.heap.size ≤ j)) (h4 : ∀ j, sv'.ownBlock = some j → sv.ownBlock = some j ∨ (m = d + 4 ∧ V.heap.size ≤ j)) (h11 : ∀ j, wv'.ownBlock = some j → wv.ownBlock = some j ∨ (m = d + 11 ∧ V.heap.size ≤ j)) :
    Ready w0 (w2.setCell ⟨D, n, none⟩ u) { s with of := setF s.of (d : Int) r', beg := setF s.beg (d : Int) true, done := dn } c Q D d (d : Int) r'.began r'.ended sv' wv' dv' := by
  have hd := h.hd
  have hm18 : m < 18 := by omega
  have hDn : ¬ kPart c m D := fun hk => h.nD ⟨m, hm18, hk⟩
  have hQn : ¬ kPart c m Q := fun hk => h.nQ ⟨m, hm18, hk⟩
  have hOn : ¬ kPart c m c.O := fun hk => h.own.run.apart 0 m c.O (by omega) hm18 (by omega) rfl hk
  have hOD : ¬ c.O = D := fun e => h.nD ⟨0, by omega, e.symm⟩
  have hDl := h.dl.lt
  have hO2 : (w2.setCell ⟨D, n, none⟩ u).heap[c.O]? = some (.cells (cells35 (stayStep s at_ (d : Int)) c) 56 (0, 0)) := by
    rw [Below.heap_setCell _ _ _ _ hOD]
    exact (ht.block c.O (h.own.run.part_lt 0 _ (by omega) rfl) hOn).trans h.own.run.blkO
  obtain ⟨s1, s2⟩ := slots_of hO2 hd
  have hQb := (h.box.turn ht hQn).turn (turns_cell w2 D n u) (fun e => h.DQ e.symm)
  have hvs : ∀ v : Value, (∀ j, v.ownBlock = some j → (∃ q, q < 18 ∧ kPart c q j) ∨ V.heap.size ≤ j) → ¬ v.ownBlock = some D := fun v hv e => by
    rcases hv D e with ⟨q, hq, hk⟩ | h5
    · exact h.nD ⟨q, hq, hk⟩
    · omega
  have hs' : ∀ j, sv.ownBlock = some j → kPart c (d + 4) j := fun j hj => (kPart_seen c hd j).2 (by rw [h.hsv]; exact hj)
  have hw' : ∀ j, wv.ownBlock = some j → kPart c (d + 11) j := fun j hj => (kPart_wrote c d j).2 (by rw [h.hwv]; exact hj)
  have hd' : ∀ j, dv.ownBlock = some j → kPart c 2 j := fun j hj => by show c.dv.ownBlock = some j; rw [h.hdv]; exact hj
  have hsz : (V.setCell ⟨D, n, none⟩ u).heap.size = V.heap.size := by simp
  obtain ⟨b1, b2, b3⟩ := (h.own.box (n := n) (u := u) h.nD h.new).run.put (w0 := w2.setCell ⟨D, n, none⟩ u) (d := d) (m := m) (r := r') (sv := sv') (wv := wv') (dn := dn) (dv := dv') hd (setF_same _ _ _) hm (ht.beside hDl hDn)
    (own_cell hsv (hvs sv' fun j hj => (h4 j hj).elim (fun e => .inl ⟨d + 4, by omega, hs' j e⟩) fun e => .inr e.2)) (own_cell hwv (hvs wv' fun j hj => (h11 j hj).elim (fun e => .inl ⟨d + 11, by omega, hw' j e⟩) fun e => .inr e.2)) (own_cell hdv (hvs dv' fun j hj => (h2 j hj).elim (fun e => .inl ⟨2, by omega, hd' j e⟩) fun e => .inr e.2))
    (fun j hj => (h2 j hj).elim (fun e => .inl (hd' j e)) fun e => .inr ⟨e.1, by rw [hsz]; exact e.2⟩) (fun j hj => (h4 j hj).elim (fun e => .inl (by rw [h.hsv]; exact e)) fun e => .inr ⟨e.1, by rw [hsz]; exact e.2⟩) (fun j hj => (h11 j hj).elim (fun e => .inl (by rw [h.hwv]; exact e)) fun e => .inr ⟨e.1, by rw [hsz]; exact e.2⟩)
  have b4 := (h.own.box (n := n) (u := u) h.nD h.new).to b1 b2 b3
  rw [stay_put] at b4
  refine ⟨⟨?_, ?_, ?_, ?_, ?_⟩, by rw [← hx]; exact hQb.1, s1, s2, _, b4, rfl, rfl, rfl, rfl⟩ <;> rw [cell_of_row _ D _ _ _ _ hD] <;> rfl
/-- The deal has seen something more. -/
theorem Rnd.saw {y : Op3} (h : Rnd w0 V s at_ d c Q D x r sv wv dv) (hx : x.1 = (d : Int)) (ht : Turns (fun j => sv.ownBlock = some j) V w2) (hv : w2.ownsRow 0 63 3 v2 (r.seen.length + 1) (flat r.seen ++ flat [y])) (hap : ∀ j, v2.ownBlock = some j → sv.ownBlock = some j ∨ V.heap.size ≤ j) :
    w2.cell? ⟨D, 3, none⟩ = some sv ∧ w2.frozen? ⟨D, 3, none⟩ = false ∧ Ready w0 (w2.setCell ⟨D, 3, none⟩ v2) { s with of := setF s.of (d : Int) { r with seen := r.seen ++ [y] }, beg := setF s.beg (d : Int) true, done := s.done } c Q D d (d : Int) r.began r.ended v2 wv dv := by
  have hd := h.hd
  have hs' : ∀ j, sv.ownBlock = some j → kPart c (d + 4) j := fun j hj => (kPart_seen c hd j).2 (by rw [h.hsv]; exact hj)
  have ht' : Turns (fun j => kPart c (d + 4) j) V w2 := ht.mono fun j _ hj => hs' j hj
  have hDn : ¬ kPart c (d + 4) D := fun hk => h.nD ⟨d + 4, by omega, hk⟩
  have hb2 : w2.heap[D]? = some (.cells #[.int .i64 (d : Int), .int .i64 r.began, .int .i64 r.ended, sv, wv] 39 (0, 0)) := (ht'.block D h.dl.lt hDn).trans h.dl
  refine ⟨by rw [cell_of_row w2 D _ _ _ _ hb2]; rfl, by simp [World.frozen?, hb2], ?_⟩
  refine h.ready (r' := { r with seen := r.seen ++ [y] }) (m := d + 4) (dn := s.done) (.inr (.inl rfl)) ht' hx (by rw [block_set hb2]; rfl) (by show World.ownsRow _ _ _ _ _ (r.seen ++ [y]).length (flat (r.seen ++ [y])); rw [List.length_append, flat_append]; exact hv) ?_ ?_ (fun j hj => .inl hj) (fun j hj => (hap j hj).elim .inl fun e => .inr ⟨rfl, e⟩) (fun j hj => .inl hj)
  · exact ht'.own h.wroteR fun j hj hk => h.own.run.apart (d + 11) (d + 4) j (by omega) (by omega) (by omega) ((kPart_wrote c d j).2 (by rw [h.hwv]; exact hj)) hk
  · rw [h.flatR]
    exact ht'.own h.doneR fun j hj hk => h.own.run.apart 2 (d + 4) j (by omega) (by omega) (by omega) (by show c.dv.ownBlock = some j; rw [h.hdv]; exact hj) hk
/-- The deal has written something more. -/
theorem Rnd.wrote {y : Int} (h : Rnd w0 V s at_ d c Q D x r sv wv dv) (hx : x.1 = (d : Int)) (ht : Turns (fun j => wv.ownBlock = some j) V w2) (hv : w2.ownsRow 0 3 1 v2 (r.wrote.length + 1) (r.wrote.map (Value.int .i64) ++ [.int .i64 y])) (hap : ∀ j, v2.ownBlock = some j → wv.ownBlock = some j ∨ V.heap.size ≤ j) :
    w2.cell? ⟨D, 4, none⟩ = some wv ∧ w2.frozen? ⟨D, 4, none⟩ = false ∧ Ready w0 (w2.setCell ⟨D, 4, none⟩ v2) { s with of := setF s.of (d : Int) { r with wrote := r.wrote ++ [y] }, beg := setF s.beg (d : Int) true, done := s.done } c Q D d (d : Int) r.began r.ended sv v2 dv := by
  have hd := h.hd
  have hw' : ∀ j, wv.ownBlock = some j → kPart c (d + 11) j := fun j hj => (kPart_wrote c d j).2 (by rw [h.hwv]; exact hj)
  have ht' : Turns (fun j => kPart c (d + 11) j) V w2 := ht.mono fun j _ hj => hw' j hj
  have hDn : ¬ kPart c (d + 11) D := fun hk => h.nD ⟨d + 11, by omega, hk⟩
  have hb2 : w2.heap[D]? = some (.cells #[.int .i64 (d : Int), .int .i64 r.began, .int .i64 r.ended, sv, wv] 39 (0, 0)) := (ht'.block D h.dl.lt hDn).trans h.dl
  refine ⟨by rw [cell_of_row w2 D _ _ _ _ hb2]; rfl, by simp [World.frozen?, hb2], ?_⟩
  refine h.ready (r' := { r with wrote := r.wrote ++ [y] }) (m := d + 11) (dn := s.done) (.inr (.inr rfl)) ht' hx (by rw [block_set hb2]; rfl) ?_ (by show World.ownsRow _ _ _ _ _ (r.wrote ++ [y]).length ((r.wrote ++ [y]).map (Value.int .i64)); rw [List.length_append, List.map_append]; exact hv) ?_ (fun j hj => .inl hj) (fun j hj => .inl hj) (fun j hj => (hap j hj).elim .inl fun e => .inr ⟨rfl, e⟩)
  · exact ht'.own h.seenR fun j hj hk => h.own.run.apart (d + 4) (d + 11) j (by omega) (by omega) (by omega) ((kPart_seen c hd j).2 (by rw [h.hsv]; exact hj)) hk
  · rw [h.flatR]
    exact ht'.own h.doneR fun j hj hk => h.own.run.apart 2 (d + 11) j (by omega) (by omega) (by omega) (by show c.dv.ownBlock = some j; rw [h.hdv]; exact hj) hk
/-- The deal stays as it is (its box is set as it was). -/
theorem Rnd.stays (h : Rnd w0 V s at_ d c Q D x r sv wv dv) (hx : x.1 = (d : Int)) : Ready w0 V { s with of := setF s.of (d : Int) r, beg := setF s.beg (d : Int) true, done := s.done } c Q D d (d : Int) r.began r.ended sv wv dv := by
  have hd := h.hd
  obtain ⟨s1, s2⟩ := slots_of h.own.run.blkO hd
  obtain ⟨b1, b2, b3⟩ := h.own.run.put (w0 := V) (d := d) (m := 2) (r := r) (sv := sv) (wv := wv) (dn := s.done) (dv := dv) hd (setF_same _ _ _) (.inl rfl) (Turns.refl _ _) h.seenR h.wroteR (by rw [h.flatR]; exact h.doneR) (fun j hj => .inl (by rw [h.hdv]; exact hj)) (fun j hj => .inl (by rw [h.hsv]; exact hj)) (fun j hj => .inl (by rw [h.hwv]; exact hj))
  have b4 := h.own.to b1 b2 b3
  rw [stay_put] at b4
  exact ⟨h.dl.cells, by rw [← hx]; exact h.box.1, s1, s2, _, b4, rfl, rfl, rfl, rfl⟩
/-- The deal has ended: its box says when. -/
theorem Rnd.ended (h : Rnd w0 V s at_ d c Q D x r sv wv dv) : DlBx (V.setCell ⟨D, 2, none⟩ (.int .i64 at_)) D (d : Int) { r with ended := at_ } sv wv ∧ OpBx (V.setCell ⟨D, 2, none⟩ (.int .i64 at_)) Q x ∧ (V.setCell ⟨D, 2, none⟩ (.int .i64 at_)).ownsRow 0 39 5 dv s.done.length (flatD (stayStep s at_ (d : Int)) c s.done) := by
  have hb : V.heap[D]? = some (.cells #[.int .i64 (d : Int), .int .i64 r.began, .int .i64 r.ended, sv, wv] 39 (0, 0)) := h.dl
  refine ⟨?_, h.box.turn (turns_cell V D 2 _) fun e => h.DQ e.symm, own_cell h.doneR fun e => h.nD ⟨2, by omega, by show c.dv.ownBlock = some D; rw [h.hdv]; exact e⟩⟩
  show (V.setCell ⟨D, 2, none⟩ (.int .i64 at_)).heap[D]? = _
  rw [block_set hb]
  rfl
/-- The deal is done: one more in the row of those that are. -/
theorem Rnd.done {ob : Obj} (h : Rnd w0 V s at_ d c Q D x r sv wv dv) (hx : x.1 = (d : Int)) (hg : ((V.setCell ⟨D, 2, none⟩ (.int .i64 at_)).alloc ob).grownBy w2 dv.ownBlock) (hv : w2.ownsRow 0 39 5 v2 (s.done.length + 1) (flatD (stayStep s at_ (d : Int)) c s.done ++ [.int .i64 (d : Int), .int .i64 r.began, .int .i64 at_, sv, wv])) (hap : ∀ j, v2.ownBlock = some j → dv.ownBlock = some j ∨ ((V.setCell ⟨D, 2, none⟩ (.int .i64 at_)).alloc ob).heap.size ≤ j) :
    Ready w0 w2 { s with of := setF s.of (d : Int) { r with ended := at_ }, beg := setF s.beg (d : Int) true, done := s.done ++ [(d : Int)] } c Q D d (d : Int) r.began at_ sv wv v2 := by
  have hd := h.hd
  obtain ⟨e1, e2, e3⟩ := h.ended
  have hk := h.own.box (n := 2) (u := .int .i64 at_) h.nD h.new
  have hd' : ∀ j, dv.ownBlock = some j → kPart c 2 j := fun j hj => by show c.dv.ownBlock = some j; rw [h.hdv]; exact hj
  have htu : Turns (fun j => kPart c 2 j) (V.setCell ⟨D, 2, none⟩ (.int .i64 at_)) w2 := (((Turns.refl (fun j => dv.ownBlock = some j) (V.setCell ⟨D, 2, none⟩ (.int .i64 at_))).alloc ob).grown hg fun j hj => .inl hj).mono fun j _ hj => hd' j hj
  have hDn : ¬ kPart c 2 D := fun hk => h.nD ⟨2, by omega, hk⟩
  have hQn : ¬ kPart c 2 Q := fun hk => h.nQ ⟨2, by omega, hk⟩
  have hOn : ¬ kPart c 2 c.O := fun hk => h.own.run.apart 0 2 c.O (by omega) (by omega) (by omega) rfl hk
  have hO2 : w2.heap[c.O]? = some (.cells (cells35 (stayStep s at_ (d : Int)) c) 56 (0, 0)) := (htu.block c.O (hk.run.part_lt 0 _ (by omega) rfl) hOn).trans hk.run.blkO
  obtain ⟨s1, s2⟩ := slots_of hO2 hd
  have hs0 : (V.setCell ⟨D, 2, none⟩ (.int .i64 at_)).ownsRow 0 63 3 sv r.seen.length (flat r.seen) := own_cell h.seenR fun e => h.nD ⟨d + 4, by omega, (kPart_seen c hd D).2 (by rw [h.hsv]; exact e)⟩
  have hw0 : (V.setCell ⟨D, 2, none⟩ (.int .i64 at_)).ownsRow 0 3 1 wv r.wrote.length (r.wrote.map (Value.int .i64)) := own_cell h.wroteR fun e => h.nD ⟨d + 11, by omega, (kPart_wrote c d D).2 (by rw [h.hwv]; exact e)⟩
  obtain ⟨b1, b2, b3⟩ := hk.run.put (w0 := w2) (d := d) (m := 2) (r := { r with ended := at_ }) (sv := sv) (wv := wv) (dn := s.done ++ [(d : Int)]) (dv := v2) hd (setF_same _ _ _) (.inl rfl) htu
    (htu.own hs0 fun j hj hkk => h.own.run.apart (d + 4) 2 j (by omega) (by omega) (by omega) ((kPart_seen c hd j).2 (by rw [h.hsv]; exact hj)) hkk) (htu.own hw0 fun j hj hkk => h.own.run.apart (d + 11) 2 j (by omega) (by omega) (by omega) ((kPart_wrote c d j).2 (by rw [h.hwv]; exact hj)) hkk)
    (by
      rw [flatD_append, List.length_append, h.flatR]
      have : flatD { stayStep s at_ (d : Int) with of := setF (stayStep s at_ (d : Int)).of (d : Int) { r with ended := at_ } } { c with sv := setF c.sv (d : Int) sv, wv := setF c.wv (d : Int) wv } [(d : Int)] = [.int .i64 (d : Int), .int .i64 r.began, .int .i64 at_, sv, wv] := by
        unfold flatD
        simp [setF_same]
      rw [this]
      exact hv) (fun j hj => (hap j hj).elim (fun e => .inl (hd' j e)) fun e => .inr ⟨rfl, by simp at e ⊢; omega⟩) (fun j hj => .inl (by rw [h.hsv]; exact hj)) (fun j hj => .inl (by rw [h.hwv]; exact hj))
  have b4 := hk.to b1 b2 b3
  rw [stay_put] at b4
  exact ⟨(e1.turn htu hDn).cells, by rw [← hx]; exact (e2.turn htu hQn).1, s1, s2, _, b4, rfl, rfl, rfl, rfl⟩
end
end Go.Proofs.YtccjognnehoodafDoor

namespace Go.Proofs.YtccjognnehoodafDoor
open Go.RowKit

theorem hid_r {p : Prop} (h : p) : Hid p := h
/-- A block of a code, by its number. -/
def blkOf (n : Nat) : Code → Option Code
  | .block i c => if i = n then some (.block i c) else blkOf n c
  | .seq a b => match blkOf n a with
    | some c => some c
    | none => blkOf n b
  | .loop c => blkOf n c
  | .cond _ a b => match blkOf n a with
    | some c => some c
    | none => blkOf n b
  | .scope c => blkOf n c
  | _ => none
set_option maxHeartbeats 32000000 in
set_option maxRecDepth 1000000 in
theorem hit_blk {K : Act → World → Prop} {Q' : Exit → Act → World → Prop} {c0 c2 c3 c4 c6 c7 c8 c9 c10 c12 c13 c16 c17 c18 c19 c20 c21 c22 c23 c24 c25 c26 c27 c28 c29 c30 c31 c32 c33 c34 c35 c36 c37 c38 c39 c40 c41 c42 c43 c44 c45 c46 c47 c48 c49 c50 c51 c52 c53 c54 c55 c56 c57 c58 c59 c60 c61 c62 c63 c64 c65 c66 c67 c68 c69 c70 c71 c72 c73 c74 c75 c76 c77 c78 c79 c80 c81 c82 c83 c84 c85 c86 c87 c88 c89 c90 c91 c92 c93 c94 c95 c96 c97 c98 c99 c100 c101 c102 c103 c104 c105 c106 c107 c108 c109 c110 c111 c112 c113 c114 c115 c116 c117 c118 c119 c120 c121 c122 c123 c124 c125 c126 c127 c128 c129 c130 c131 c132 c133 c134 c135 c136 c137 c138 c139 c140 c141 c142 c143 c144 c145 c146 c147 c148 c149 c150 c151 c152 c153 c154 c155 c156 c157 c158 c159 c160 c161 c162 c163 c164 c165 c166 c167 c168 c169 c170 c171 c172 c173 c174 c175 c176 c177 c178 c179 c180 c181 c182 c183 c184 c185 c186 c187 c188 c189 c190 c191 c192 c193 c194 c195 c196 c197 c198 c199 c200 c201 c202 c203 c204 c205 c206 c207 c208 c209 c210 c211 c212 c213 c214 c215 c216 c217 c218 c219 c220 c221 c222 c223 c224 c225 c226 c227 c228 c229 c230 c231 c232 c233 : Value} {w : World} {s : Kst} {at_ : Int} {dt : Nat} {c1 : KLay} {Q D : Nat} {i : Int} {r : Dl} {ads adw add : Option Addr} {ns cps nw cpw cpd : Nat} (kind : Int) (hk4 : kind < 4) (V : World)
    (hR : Rnd w V s at_ dt c1 Q D ((dt : Int), 3, i) r (.slice ads ns cps) (.slice adw nw cpw) (.slice add s.done.length cpd)) (hDS : ∀ V', Rnd w V' s at_ dt c1 Q D ((dt : Int), 3, i) r (.slice ads ns cps) (.slice adw nw cpw) (.slice add s.done.length cpd) → IsDeals V' (.slice add s.done.length cpd) s.done s.of) (hlen : r.seen.length = ns ∧ r.wrote.length = nw ∧ ns ≤ 40 ∧ nw ≤ 40) (hKL : ∀ t, (s.of t).seen.length ≤ 40 ∧ (s.of t).wrote.length ≤ 40) (hdn6 : s.done.length ≤ 6)
    (hK : ∀ (u15 u16 u17 u18 u118 u119 u120 u121 u122 u123 u124 u125 u126 u127 u128 u129 u130 u131 u132 u133 u134 u135 u136 u137 u138 u139 u140 u141 u142 u143 u144 u145 u146 u147 u148 u149 u150 u151 u152 u153 u154 u155 u156 u157 u158 u159 u160 u161 u162 u163 u164 u165 : Value) (V' : World), Rnd w V' s at_ dt c1 Q D ((dt : Int), 3, i) r (.slice ads ns cps) (.slice adw nw cpw) (.slice add s.done.length cpd) → K ⟨#[c0, .int .i64 kind, c2, c3, c4, .slice add s.done.length cpd, c6, c7, c8, c9, c10, .pointer (some ⟨D, 0, none⟩), c12, c13, .bool (!hitK kind s (dt : Int) r), u15, u16, u17, u18, c19, c20, c21, c22, c23, c24, c25, c26, c27, c28, c29, c30, c31, c32, c33, c34, c35, c36, c37, c38, c39, c40, c41, c42, c43, c44, c45, c46, c47, c48, c49, c50, c51, c52, c53, c54, c55, c56, c57, c58, c59, c60, c61, c62, c63, c64, c65, c66, c67, c68, c69, c70, c71, c72, c73, c74, c75, c76, c77, c78, c79, c80, c81, c82, c83, c84, c85, c86, c87, c88, c89, c90, c91, c92, c93, c94, c95, c96, c97, c98, c99, c100, c101, c102, c103, c104, c105, c106, c107, c108, c109, c110, c111, c112, c113, c114, c115, c116, c117, u118, u119, u120, u121, u122, u123, u124, u125, u126, u127, u128, u129, u130, u131, u132, u133, u134, u135, u136, u137, u138, u139, u140, u141, u142, u143, u144, u145, u146, u147, u148, u149, u150, u151, u152, u153, u154, u155, u156, u157, u158, u159, u160, u161, u162, u163, u164, u165, c166, c167, c168, c169, c170, c171, c172, c173, c174, c175, c176, c177, c178, c179, c180, c181, c182, c183, c184, c185, c186, c187, c188, c189, c190, c191, c192, c193, c194, c195, c196, c197, c198, c199, c200, c201, c202, c203, c204, c205, c206, c207, c208, c209, c210, c211, c212, c213, c214, c215, c216, c217, c218, c219, c220, c221, c222, c223, c224, c225, c226, c227, c228, c229, c230, c231, c232, c233], []⟩ V') :
    Code.wp Tryd.prog ((Tryd.f8.body.bind (blkOf 4)).getD .skip) (Exit.then K Q') ⟨#[c0, .int .i64 kind, c2, c3, c4, .slice add s.done.length cpd, c6, c7, c8, c9, c10, .pointer (some ⟨D, 0, none⟩), c12, c13, .bool true, .int .i64 0, c16, c17, c18, c19, c20, c21, c22, c23, c24, c25, c26, c27, c28, c29, c30, c31, c32, c33, c34, c35, c36, c37, c38, c39, c40, c41, c42, c43, c44, c45, c46, c47, c48, c49, c50, c51, c52, c53, c54, c55, c56, c57, c58, c59, c60, c61, c62, c63, c64, c65, c66, c67, c68, c69, c70, c71, c72, c73, c74, c75, c76, c77, c78, c79, c80, c81, c82, c83, c84, c85, c86, c87, c88, c89, c90, c91, c92, c93, c94, c95, c96, c97, c98, c99, c100, c101, c102, c103, c104, c105, c106, c107, c108, c109, c110, c111, c112, c113, c114, c115, c116, c117, c118, c119, c120, c121, c122, c123, c124, c125, c126, c127, c128, c129, c130, c131, c132, c133, c134, c135, c136, c137, c138, c139, c140, c141, c142, c143, c144, c145, c146, c147, c148, c149, c150, c151, c152, c153, c154, c155, c156, c157, c158, c159, c160, c161, c162, c163, c164, c165, c166, c167, c168, c169, c170, c171, c172, c173, c174, c175, c176, c177, c178, c179, c180, c181, c182, c183, c184, c185, c186, c187, c188, c189, c190, c191, c192, c193, c194, c195, c196, c197, c198, c199, c200, c201, c202, c203, c204, c205, c206, c207, c208, c209, c210, c211, c212, c213, c214, c215, c216, c217, c218, c219, c220, c221, c222, c223, c224, c225, c226, c227, c228, c229, c230, c231, c232, c233], []⟩ V := by
  conv => arg 2; whnf
  obtain ⟨mineF, hmF⟩ : ∃ f : Int → Bool, f = fun item => if 1 < kind then inB r.wrote item else readK (dt : Int) r item := ⟨_, rfl⟩
  obtain ⟨FH, hFH⟩ : ∃ FH : Int → Bool, FH = fun u => (s.of u).wrote.any fun item => decide (r.began < (s.of u).ended) && mineF item := ⟨_, rfl⟩
  have HFH := hid_r hFH
  have HMF := hid_r hmF
  have HHK : Hid (hitK kind s (dt : Int) r = s.done.any FH) := by show _ = _; rw [hFH, hmF]; rfl
  have HRN := hid_r hR
  have HDS := hid_r hDS
  have HLEN := hid_r hlen
  have HKL := hid_r hKL
  have HK := hid_r hK
  have hns40 := hlen.2.2.1
  have hnw40 := hlen.2.2.2
  clear hFH hmF hR hDS hlen hKL hK
  go_wp2_with fail
  go_loopw [14, 15] (fun v14 v15 wr => ∃ n : Nat, n ≤ s.done.length ∧ v15 = .int .i64 n ∧ v14 = .bool (!(s.done.take n).any FH) ∧ Rnd w wr s at_ dt c1 Q D ((dt : Int), 3, i) r (.slice ads ns cps) (.slice adw nw cpw) (.slice add s.done.length cpd)) (fun _ v15 _ => s.done.length - (intOf v15).toNat)
  case atStart => exact ⟨0, Nat.zero_le _, rfl, rfl, HRN.out⟩
  case round =>
    obtain ⟨n, hn, rfl, rfl, hrn⟩ := hrel
    obtain ⟨WO, hWO⟩ : ∃ W : World, W = wr := ⟨_, rfl⟩
    subst hWO
    have HRW := hid_r hrn
    clear hrn HRN
    by_cases hlt2 : n < s.done.length
    · have hlt2' : (n : Int) < (s.done.length : Int) := by omega
      have hn0 : (0 : Int) ≤ (n : Int) := by omega
      have hnn : ¬ (n : Int) < 0 := by omega
      obtain ⟨adx, bd, ofd, cpx, hvx, hax, hbx, hcx⟩ := HDS.out _ HRW.out
      simp only [Value.slice.injEq, true_and] at hvx
      obtain ⟨rfl, rfl⟩ := hvx
      obtain rfl := hax (by omega)
      obtain ⟨su, wu, hdl, k0, k1, k2, k3, k4⟩ := hcx n hlt2
      obtain ⟨u, hu⟩ : ∃ u, s.done.getD n 0 = u := ⟨_, rfl⟩
      rw [hu] at hdl k0 k1 k2
      obtain ⟨ru, hru⟩ : ∃ ru, s.of u = ru := ⟨_, rfl⟩
      rw [hru] at hdl k1 k2
      have HFU : Hid (FH u = ru.wrote.any fun item => decide (r.began < ru.ended) && mineF item) := by show _ = _; rw [HFH.out]; show ((s.of u).wrote.any fun item => decide (r.began < (s.of u).ended) && mineF item) = _; rw [hru]
      have HTK : Hid ((s.done.take (n + 1)).any FH = ((s.done.take n).any FH || FH u)) := by
        show _ = _
        rw [List.take_succ_eq_append_getElem hlt2, List.any_append]
        have : s.done[n] = u := by rw [← hu]; simp [List.getD, hlt2]
        simp [this]
      obtain ⟨wad, bw, ofw, wcp, hvw, haw, -, hbw2, hcw⟩ := hdl.wrote
      subst hvw
      obtain ⟨nl, hnl⟩ : ∃ nl, ru.wrote.length = nl := ⟨_, rfl⟩
      have HNL := hid_r hnl
      have hnl40 : nl ≤ 40 := by rw [← hnl, ← hru]; exact (HKL.out u).2
      rw [hnl] at haw hcw
      obtain ⟨b1, hb1⟩ : ∃ b1, (s.done.take n).any FH = b1 := ⟨_, rfl⟩
      rw [hb1] at HTK
      rw [hb1]
      have hbdl : bd < WO.heap.size := World.block_lt_of_cell? WO _ k0
      have HBS : Hid (∀ W, Below WO.heap.size WO W → (W.cell? ⟨bd, ofd + n * 5 + 4, none⟩ = some (.slice wad nl wcp) ∧ W.cell? ⟨bd, ofd + n * 5 + 2, none⟩ = some (.int .i64 ru.ended)) ∧ ∀ j, j < nl → wad = some ⟨bw, ofw, none⟩ ∧ W.cell? ⟨bw, ofw + j, none⟩ = some (.int .i64 (ru.wrote.getD j 0))) := fun W hW => by
        rw [hnl] at k4
        refine ⟨⟨(hW.cell (p := ⟨bd, ofd + n * 5 + 4, none⟩) hbdl).trans k4, (hW.cell (p := ⟨bd, ofd + n * 5 + 2, none⟩) hbdl).trans k2⟩, fun j hj => ⟨haw (by omega), ?_⟩⟩
        have hb0 : bw < WO.heap.size := by
          rcases hbw2 with h | h
          · exact h
          · rw [h] at hnl; simp at hnl; omega
        exact (hW.cell (p := ⟨bw, ofw + j, none⟩) hb0).trans (hcw j hj)
      clear hax hbx hcx hdl k0 k1 k2 k3 k4 hu hru haw hbw2 hcw hnl hb1
      go_wp2_with fail
      go_loopw [14, 16] (fun v14 v16 wr => ∃ j : Nat, j ≤ nl ∧ v16 = .int .i64 j ∧ v14 = .bool (!(b1 || (ru.wrote.take j).any fun item => decide (r.began < ru.ended) && mineF item)) ∧ Rnd w wr s at_ dt c1 Q D ((dt : Int), 3, i) r (.slice ads ns cps) (.slice adw nw cpw) (.slice (some ⟨bd, ofd, none⟩) s.done.length cpd) ∧ Below WO.heap.size WO wr) (fun _ v16 _ => nl - (intOf v16).toNat)
      case atStart => exact ⟨0, Nat.zero_le _, rfl, by simp, HRW.out, Below.refl _ _⟩
      case round =>
        obtain ⟨j, hj, rfl, rfl, hri, hbi⟩ := hrel
        have HRI := hid_r hri
        have HBI := hid_r hbi
        obtain ⟨⟨m4, m2⟩, mw⟩ := HBS.out _ hbi
        obtain ⟨q0, q1, q2, q3, q4⟩ := hri.dl.cells
        clear hri hbi
        by_cases hlt3 : j < nl
        · have hlt3' : (j : Int) < (nl : Int) := by omega
          have hj0 : (0 : Int) ≤ (j : Int) := by omega
          have hjn : ¬ (j : Int) < 0 := by omega
          obtain ⟨rfl, m0⟩ := mw j hlt3
          obtain ⟨it, hit⟩ : ∃ it, ru.wrote.getD j 0 = it := ⟨_, rfl⟩
          rw [hit] at m0
          obtain ⟨b2, hb2⟩ : ∃ b2, ((ru.wrote.take j).any fun item => decide (r.began < ru.ended) && mineF item) = b2 := ⟨_, rfl⟩
          obtain ⟨b3, hb3⟩ : ∃ b3, decide (r.began < ru.ended) = b3 := ⟨_, rfl⟩
          obtain ⟨b4, hb4⟩ : ∃ b4, mineF it = b4 := ⟨_, rfl⟩
          have HTJ : Hid ((b1 || (ru.wrote.take (j + 1)).any fun item => decide (r.began < ru.ended) && mineF item) = (b1 || (b2 || (b3 && b4)))) := by
            show _ = _
            have hjl : j < ru.wrote.length := by rw [HNL.out]; exact hlt3
            rw [List.take_succ_eq_append_getElem hjl, List.any_append, hb2]
            have h9 : ru.wrote[j] = it := by rw [← hit]; simp [List.getD, hjl]
            simp [h9, hb4, hb3]
          have HRDc : Hid (Calls Tryd.prog 23 #[.agg #[.int .i64 (dt : Int), .int .i64 r.began, .int .i64 r.ended, .slice ads ns cps, .slice adw nw cpw], .int .i64 it] wr fun e w' => e = .returned (.bool (readK (dt : Int) r it)) ∧ Below wr.heap.size wr w') :=
            read_any (dt : Int) r (.slice ads ns cps) (.slice adw nw cpw) it wr ⟨isOps_row HRI.out.seenR rfl, isInts_own HRI.out.wroteR rfl, by rw [HLEN.out.1, HLEN.out.2.1]; omega⟩
          have HINc : Hid (∀ W, Rnd w W s at_ dt c1 Q D ((dt : Int), 3, i) r (.slice ads ns cps) (.slice adw nw cpw) (.slice (some ⟨bd, ofd, none⟩) s.done.length cpd) → Calls Tryd.prog 21 #[.slice adw nw cpw, .int .i64 it] W fun e w' => e = .returned (.bool (inB r.wrote it)) ∧ w' = W) := fun W hW => in_any r.wrote (.slice adw nw cpw) it W (isInts_own hW.wroteR rfl) (by rw [HLEN.out.2.1]; omega)
          have HM1 : Hid (mineF it = if 1 < kind then inB r.wrote it else readK (dt : Int) r it) := by show _ = _; rw [HMF.out]
          rw [hb2]
          clear hit hb2 mw
          by_cases hk1 : 1 < kind
          · have HIN2 : Hid (∀ W, Rnd w W s at_ dt c1 Q D ((dt : Int), 3, i) r (.slice ads ns cps) (.slice adw nw cpw) (.slice (some ⟨bd, ofd, none⟩) s.done.length cpd) → Calls Tryd.prog 21 #[.slice adw nw cpw, .int .i64 it] W fun e w' => e = .returned (.bool b4) ∧ w' = W) := by
              have h9 := HINc.out
              rw [← hb4, HM1.out, if_pos hk1]
              exact h9
            obtain ⟨br, hbr⟩ : ∃ b, readK (dt : Int) r it = b := ⟨_, rfl⟩
            rw [hbr] at HRDc
            clear hb4 hbr HINc
            go_wp2_with fail
            refine HRDc.out.mono ?_
            rintro e w3 ⟨rfl, hb9⟩
            have HR3 := hid_r (HRI.out.below hb9)
            have HB3 : Hid (Below WO.heap.size WO w3) := HBI.out.trans (hb9.mono HBI.out.size)
            obtain ⟨⟨m4', m2'⟩, -⟩ := HBS.out _ HB3.out
            obtain ⟨t0, t1, t2, t3, t4⟩ := HR3.out.dl.cells
            clear hb9 m0 m4 m2 q0 q1 q2 q3 q4 HRDc HRI HBI
            go_wp2_with fail
            refine (HIN2.out _ HR3.out).mono ?_
            rintro e w4 ⟨rfl, hw4⟩
            subst hw4
            cases b3 with
            | false =>
              have hng : decide (r.began < ru.ended) = false := hb3
              go_wp2_with fail
              go_quiet (fail)
              go_wp2_with fail
              go_roundw
              case rel => exact ⟨j + 1, by omega, by go_num, by rw [HTJ.out]; simp, HR3.out.below (below_drewN (Below.refl _ _) _), below_drewN HB3.out _⟩
              case measure => simp [intOf]; omega
            | true =>
              have hng : decide (r.began < ru.ended) = true := hb3
              cases b4 with
              | false =>
                go_wp2_with fail
                go_quiet (fail)
                go_wp2_with fail
                go_roundw
                case rel => exact ⟨j + 1, by omega, by go_num, by rw [HTJ.out]; simp, HR3.out.below (below_drewN (Below.refl _ _) _), below_drewN HB3.out _⟩
                case measure => simp [intOf]; omega
              | true =>
                go_wp2_with fail
                go_quiet (fail)
                go_wp2_with fail
                go_roundw
                case rel => exact ⟨j + 1, by omega, by go_num, by rw [HTJ.out]; simp, HR3.out.below (below_drewN (Below.refl _ _) _), below_drewN HB3.out _⟩
                case measure => simp [intOf]; omega
          · have HRD2 : Hid (Calls Tryd.prog 23 #[.agg #[.int .i64 (dt : Int), .int .i64 r.began, .int .i64 r.ended, .slice ads ns cps, .slice adw nw cpw], .int .i64 it] wr fun e w' => e = .returned (.bool b4) ∧ Below wr.heap.size wr w') := by
              have h9 := HRDc.out
              rw [← hb4, HM1.out, if_neg hk1]
              exact h9
            clear hb4 HRDc HINc
            go_wp2_with fail
            refine HRD2.out.mono ?_
            rintro e w3 ⟨rfl, hb9⟩
            have HR3 := hid_r (HRI.out.below hb9)
            have HB3 : Hid (Below WO.heap.size WO w3) := HBI.out.trans (hb9.mono HBI.out.size)
            obtain ⟨⟨m4', m2'⟩, -⟩ := HBS.out _ HB3.out
            obtain ⟨t0, t1, t2, t3, t4⟩ := HR3.out.dl.cells
            clear hb9 m0 m4 m2 q0 q1 q2 q3 q4 HRD2 HRI HBI
            cases b3 with
            | false =>
              have hng : decide (r.began < ru.ended) = false := hb3
              go_wp2_with fail
              go_quiet (fail)
              go_wp2_with fail
              go_roundw
              case rel => exact ⟨j + 1, by omega, by go_num, by rw [HTJ.out]; simp, HR3.out.below (below_drewN (Below.refl _ _) _), below_drewN HB3.out _⟩
              case measure => simp [intOf]; omega
            | true =>
              have hng : decide (r.began < ru.ended) = true := hb3
              cases b4 with
              | false =>
                go_wp2_with fail
                go_quiet (fail)
                go_wp2_with fail
                go_roundw
                case rel => exact ⟨j + 1, by omega, by go_num, by rw [HTJ.out]; simp, HR3.out.below (below_drewN (Below.refl _ _) _), below_drewN HB3.out _⟩
                case measure => simp [intOf]; omega
              | true =>
                go_wp2_with fail
                go_quiet (fail)
                go_wp2_with fail
                go_roundw
                case rel => exact ⟨j + 1, by omega, by go_num, by rw [HTJ.out]; simp, HR3.out.below (below_drewN (Below.refl _ _) _), below_drewN HB3.out _⟩
                case measure => simp [intOf]; omega
        · have hlt3' : ¬ (j : Int) < (nl : Int) := by omega
          obtain rfl : j = nl := by omega
          have HFN : Hid ((s.done.take (n + 1)).any FH = (b1 || (ru.wrote.take j).any fun item => decide (r.began < ru.ended) && mineF item)) := by show _ = _; rw [HTK.out, HFU.out, ← HNL.out, List.take_length]
          go_wp2_with fail
          go_roundw
          case rel => exact ⟨n + 1, by omega, by go_num, by rw [HFN.out], HRI.out⟩
          case measure => simp [intOf]; omega
    · have hlt2' : ¬ (n : Int) < (s.done.length : Int) := by omega
      obtain rfl : n = s.done.length := by omega
      rw [List.take_length, ← HHK.out]
      go_wp2_with fail
      exact HK.out _ _ _ _ _ _ _ _ _ _ _ _ _ _ _ _ _ _ _ _ _ _ _ _ _ _ _ _ _ _ _ _ _ _ _ _ _ _ _ _ _ _ _ _ _ _ _ _ _ _ _ _ _ HRW.out
end Go.Proofs.YtccjognnehoodafDoor
