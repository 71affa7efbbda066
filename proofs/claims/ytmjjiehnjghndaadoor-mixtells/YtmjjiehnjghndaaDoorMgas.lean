/-
  PROVED HERE: append on a row of one's own, of nothing or of another slice, and where the row lies then.
  Conditions: as the library's law of append has them.
  (Of these, what the claim wants: the rest was left out.)
  PROVED HERE: laneref2.Mixes, over rows of ops in memory: all orders of them behind a beginning, as mixG has them. Old memory stays as it was.
  Conditions: there are at most 8 ops.
-/
import Derived.Test.YtmjjiehnjghndaaDoorMgar
import Derived.Test.YtmjjiehnjghndaaDoorMgai
import Derived.Laws.OwnMore
import Derived.Test.YtmjjiehnjghndaaDoorMgaj
import Derived.Deep.Cut
namespace Go.Proofs.YtmjjiehnjghndaaDoor
open Go.RowKit

/-- A source: nothing, or cells at an address. -/
def SrcAt (w : World) (x : Value) (m size : Nat) (news : List Value) : Prop := (x = .slice none 0 0 ∧ m = 0 ∧ news = []) ∨ ∃ ad c, x = .slice (some ad) m c ∧ news.length = m * size ∧ ∀ j u, news[j]? = some u → w.cell? (ad.add j) = some u
theorem wp_append_src {P : Program} {o : Oper} {a : Act} (w : World) {K : Act → World → Prop} {Q : Exit → Act → World → Prop} (s x : Operand) (t : TypeId)
    (ho : o.op = .call { callee := .builtin .append, args := #[s, x], argTypes := #[t, t] })
    (base : Nat) (e : TypeId) (i : TypeInfo) (z : Value) (size bytes : Nat) (ht : P.underlying t = some (.slice e)) (hi : P.info? e = some i) (hz : i.zero = some z)
    (hsize : i.size = size) (hby : i.bytes = bytes) (hzs : z.cells.size = size) (hsz : 0 < size)
    (v : Value) (n : Nat) (xs : List Value) (hs : a.eval s = v) (hown : w.ownsRow base e size v n xs)
    (xv : Value) (m : Nat) (news : List Value) (hx : a.eval x = xv) (hnews : SrcAt w xv m size news) (h1 : ∀ u ∈ news, u.oneCell' = true)
    (h63 : n + m ≤ maxLen) (hbytes : (n + m) * bytes ≤ 140737488355328) (hbase : base ≤ w.heap.size)
    (h : ∀ v' w', w'.ownsRow base e size v' (n + m) (xs ++ news) → w.grownBy w' v.ownBlock → (∀ g, v'.ownBlock = some g → v.ownBlock = some g ∨ w.heap.size ≤ g) → K (a.put o.dst v') w') : o.wp P a w K Q := by
  rcases hnews with ⟨rfl, rfl, rfl⟩ | ⟨ad, c, rfl, hl, hn⟩
  · have hrun := run_append_owned_none (P := P) (w := w) base t o.type e i size ht hi v n xs hown
    unfold Oper.wp
    simp only [execOp, ho, resolve, invoke, builtin, Sem.run_bind, Sem.run_pure, Result.andThen_ok, List.map_toArray, List.map_cons, List.map_nil, hs, hx, hrun]
    refine h v w ?_ ⟨rfl, rfl, rfl, Nat.le_refl _, fun _ _ _ => rfl⟩ fun g hg => .inl hg
    rw [Nat.add_zero, List.append_nil]
    exact hown
  · exact wp_append_apart w s x t ho base e i z size bytes ht hi hz hsize hby hzs hsz v n xs hs hown ad m c news hx hl hn h1 h63 hbytes hbase h
theorem srcAt_ops {w : World} {v : Value} {l : List Op3} (h : IsOps w v l) : SrcAt w v l.length 3 (flat l) := by
  obtain ⟨ad, b, off, cap, rfl, ha, hn, hbB, hops⟩ := h
  cases ad with
  | none =>
    obtain ⟨h1, rfl⟩ := hn rfl
    have h2 : l = [] := List.length_eq_zero_iff.1 h1
    subst h2
    exact .inl ⟨rfl, rfl, rfl⟩
  | some a =>
    refine .inr ⟨a, cap, rfl, flat_length l, fun j u hj => ?_⟩
    have hlt : j < (flat l).length := (List.getElem?_eq_some_iff.1 hj).1
    rw [flat_length] at hlt
    have := ha (by omega)
    obtain rfl := Option.some.inj this
    rw [Addr.add_lit]
    exact hops.flat j u hj
/-- As an operation of a region in the text's order. -/
theorem wpList_append_src {P : Program} (w : World) {ops : Array Oper} {rest : List Oper} {o : Oper} {a : Act} {Q : Exit → Act → World → Prop} (hgd : o.guard = none) (s x : Operand) (t : TypeId)
    (ho : o.op = .call { callee := .builtin .append, args := #[s, x], argTypes := #[t, t] })
    (base : Nat) (e : TypeId) (i : TypeInfo) (z : Value) (size bytes : Nat) (ht : P.underlying t = some (.slice e)) (hi : P.info? e = some i) (hz : i.zero = some z)
    (hsize : i.size = size) (hby : i.bytes = bytes) (hzs : z.cells.size = size) (hsz : 0 < size)
    (v : Value) (n : Nat) (xs : List Value) (hs : a.eval s = v) (hown : w.ownsRow base e size v n xs)
    (xv : Value) (m : Nat) (news : List Value) (hx : a.eval x = xv) (hnews : SrcAt w xv m size news) (h1 : ∀ u ∈ news, u.oneCell' = true)
    (h63 : n + m ≤ maxLen) (hbytes : (n + m) * bytes ≤ 140737488355328) (hbase : base ≤ w.heap.size)
    (h : ∀ v' w', w'.ownsRow base e size v' (n + m) (xs ++ news) → w.grownBy w' v.ownBlock → (∀ g, v'.ownBlock = some g → v.ownBlock = some g ∨ w.heap.size ≤ g) → wpList P ops Q rest (a.put o.dst v') w') : wpList P ops Q (o :: rest) a w :=
  wpList_plain hgd fun _ hK => wp_append_src w s x t ho base e i z size bytes ht hi hz hsize hby hzs hsz v n xs hs hown xv m news hx hnews h1 h63 hbytes hbase fun v' w' h2 h3 h4 => hK _ _ (h v' w' h2 h3 h4)
theorem srcAt_own {w : World} {base e size n : Nat} {v : Value} {xs : List Value} (h : w.ownsRow base e size v n xs) : SrcAt w v n size xs := by
  have h' := h
  obtain ⟨hl, ⟨hv, hn⟩ | ⟨g, cap, cur, hv, _⟩⟩ := h'
  · refine .inl ⟨hv, hn, ?_⟩
    rw [hn] at hl
    exact List.eq_nil_of_length_eq_zero (by simpa using hl)
  · exact .inr ⟨⟨g, 0, none⟩, cap, hv, hl, fun j u hj => h.cells (g := g) (by rw [hv]; rfl) j u hj⟩
end Go.Proofs.YtmjjiehnjghndaaDoor

namespace Go.Proofs.YtmjjiehnjghndaaDoor
open Go.RowKit

/-- Values of which each holds a list of ops. -/
def ManyV (w : World) (us : List Value) (ls : List (List Op3)) : Prop := us.length = ls.length ∧ ∀ i, i < ls.length → IsOps w (us.getD i undef) (ls.getD i [])
theorem ManyV.nil (w : World) : ManyV w [] [] := ⟨rfl, fun i hi => by cases hi⟩
theorem ManyV.below {w w1 : World} {us : List Value} {ls : List (List Op3)} (h : ManyV w us ls) (hb : Below w.heap.size w w1) : ManyV w1 us ls := ⟨h.1, fun i hi => (h.2 i hi).below hb (Nat.le_refl _)⟩
theorem ManyV.app {w : World} {us vs : List Value} {ls ms : List (List Op3)} (h : ManyV w us ls) (k : ManyV w vs ms) : ManyV w (us ++ vs) (ls ++ ms) := by
  refine ⟨by rw [List.length_append, List.length_append, h.1, k.1], fun i hi => ?_⟩
  rw [List.length_append] at hi
  by_cases hlt : i < ls.length
  · have e1 : (us ++ vs).getD i undef = us.getD i undef := by simp [List.getD, List.getElem?_append_left (show i < us.length by rw [h.1]; exact hlt)]
    have e2 : (ls ++ ms).getD i [] = ls.getD i [] := by simp [List.getD, List.getElem?_append_left hlt]
    rw [e1, e2]; exact h.2 i hlt
  · have e1 : (us ++ vs).getD i undef = vs.getD (i - ls.length) undef := by simp [List.getD, List.getElem?_append_right (show us.length ≤ i by rw [h.1]; omega), h.1]
    have e2 : (ls ++ ms).getD i [] = ms.getD (i - ls.length) [] := by simp [List.getD, List.getElem?_append_right (show ls.length ≤ i by omega)]
    rw [e1, e2]; exact k.2 _ (by omega)
theorem ManyV.one {w : World} {us : List Value} {ls : List (List Op3)} (h : ManyV w us ls) : ∀ u ∈ us, u.oneCell' = true := fun u hu => by
  obtain ⟨i, hi, rfl⟩ := List.getElem_of_mem hu
  obtain ⟨ad, _, _, cap, hv, _⟩ := h.2 i (by rw [← h.1]; exact hi)
  have : us.getD i undef = us[i] := by simp [List.getD, List.getElem?_eq_getElem hi]
  rw [this] at hv
  rw [hv]; rfl
theorem ManyV.grown {w w1 : World} {row : Option Nat} {us : List Value} {ls : List (List Op3)} (h : ManyV w us ls) (hg : w.grownBy w1 row) (ha : ∀ u ∈ us, ∀ b, u.ownBlock = some b → row ≠ some b) : ManyV w1 us ls := ⟨h.1, fun i hi => by
  have hiu : i < us.length := by rw [h.1]; exact hi
  have hu : us.getD i undef ∈ us := by simp [List.getD, List.getElem?_eq_getElem hiu]
  obtain ⟨ad, b, off, cap, hv, hA, hn, hbB, hops⟩ := h.2 i hi
  have hs := hg.size
  refine ⟨ad, b, off, cap, hv, hA, hn, hbB.imp (fun h => by omega) id, fun k hk => ?_⟩
  have hb : (us.getD i undef).ownBlock = some b := by rw [hv, hA (by omega)]; rfl
  have hne : some b ≠ row := fun e => ha _ hu b hb e.symm
  obtain ⟨c0, c1, c2⟩ := hops k hk
  exact ⟨hg.cell (a := ⟨b, off + k * 3, none⟩) c0 hne, hg.cell (a := ⟨b, off + k * 3 + 1, none⟩) c1 hne, hg.cell (a := ⟨b, off + k * 3 + 2, none⟩) c2 hne⟩⟩
/-- Where values lie. -/
def BlkV (w : World) (us : List Value) (P : Nat → Prop) : Prop := ∀ u ∈ us, ∀ b, u.ownBlock = some b → P b ∧ b < w.heap.size
theorem BlkV.size {w w1 : World} {us : List Value} {P : Nat → Prop} (h : BlkV w us P) (hs : w.heap.size ≤ w1.heap.size) : BlkV w1 us P := fun u hu b hb => ⟨(h u hu b hb).1, by have := (h u hu b hb).2; omega⟩
theorem BlkV.app {w : World} {us vs : List Value} {P : Nat → Prop} (h : BlkV w us P) (k : BlkV w vs P) : BlkV w (us ++ vs) P := fun u hu => (List.mem_append.1 hu).elim (h u) (k u)
def arrV (A : Nat → Option Addr) (N C : Nat → Nat) : Array Value := #[.slice (A 0) (N 0) (C 0), .slice (A 1) (N 1) (C 1), .slice (A 2) (N 2) (C 2), .slice (A 3) (N 3) (C 3), .slice (A 4) (N 4) (C 4), .slice (A 5) (N 5) (C 5), .slice (A 6) (N 6) (C 6)]
/-- Seven slices in a block. -/
def ArrAt (w : World) (B : Nat) (A : Nat → Option Addr) (N C : Nat → Nat) : Prop := w.heap[B]? = some (.cells (arrV A N C) 40 (0, 0))
theorem ArrAt.lt {w : World} {B : Nat} {A : Nat → Option Addr} {N C : Nat → Nat} (h : ArrAt w B A N C) : B < w.heap.size := by
  have h' : w.heap[B]? = some _ := h
  exact (Array.getElem?_eq_some_iff.1 h').1
theorem ArrAt.below {w w1 : World} {B B0 : Nat} {A : Nat → Option Addr} {N C : Nat → Nat} (h : ArrAt w B A N C) (hb : Below B0 w w1) (hB : B < B0) : ArrAt w1 B A N C := (hb.block B hB).trans h
theorem ArrAt.cell {w : World} {B : Nat} {A : Nat → Option Addr} {N C : Nat → Nat} (h : ArrAt w B A N C) {k : Nat} (hk : k < 7) : w.cell? ⟨B, k, none⟩ = some (.slice (A k) (N k) (C k)) := by
  rw [cell_of_row w B _ _ _ _ h]
  match k, hk with
  | 0, _ => rfl
  | 1, _ => rfl
  | 2, _ => rfl
  | 3, _ => rfl
  | 4, _ => rfl
  | 5, _ => rfl
  | 6, _ => rfl
theorem ArrAt.thaw {w : World} {B : Nat} {A : Nat → Option Addr} {N C : Nat → Nat} (h : ArrAt w B A N C) (k : Nat) : w.frozen? ⟨B, k, none⟩ = false := by
  have h' : w.heap[B]? = some _ := h
  simp [World.frozen?, h']
def updM {α : Type} (f : Nat → α) (d : Nat) (x : α) : Nat → α := fun k => if k = d then x else f k
theorem ArrAt.set {w : World} {B : Nat} {A : Nat → Option Addr} {N C : Nat → Nat} (h : ArrAt w B A N C) {d : Nat} (hd : d < 7) (a : Option Addr) (n c : Nat) : ArrAt (w.setCell ⟨B, d, none⟩ (.slice a n c)) B (updM A d a) (updM N d n) (updM C d c) := by
  have h' : w.heap[B]? = some (.cells (arrV A N C) 40 (0, 0)) := h
  unfold ArrAt World.setCell
  simp only [Array.getElem?_modify, h', if_true, Option.map_some]
  congr 2
  match d, hd with
  | 0, _ => rfl
  | 1, _ => rfl
  | 2, _ => rfl
  | 3, _ => rfl
  | 4, _ => rfl
  | 5, _ => rfl
  | 6, _ => rfl
theorem arr_new (w : World) (A : Nat → Option Addr) (N C : Nat → Nat) : ArrAt (w.alloc (.cells (arrV A N C) 40)) w.heap.size A N C := by
  unfold ArrAt World.alloc
  simp
/-- The rows of an array of slices. -/
def RowsM (w : World) (A : Nat → Option Addr) (N C : Nat → Nat) (rows : Nat → List Op3) : Prop := ∀ d, 1 ≤ d → d ≤ 6 → N d = (rows d).length ∧ N d ≤ C d ∧ IsOps w (.slice (A d) (N d) (C d)) (rows d)
theorem RowsM.below {w w1 : World} {A : Nat → Option Addr} {N C : Nat → Nat} {rows : Nat → List Op3} (h : RowsM w A N C rows) (hb : Below w.heap.size w w1) : RowsM w1 A N C rows := fun d h1 h6 => ⟨(h d h1 h6).1, (h d h1 h6).2.1, (h d h1 h6).2.2.below hb (Nat.le_refl _)⟩
theorem elem_opsM : Tryd.prog.underlying 22 = some (.slice (Tryd.prog.elem 22)) := by kernel_rfl
theorem size_opM (W : World) : (sizeOf (Tryd.prog.elem 22)).run Tryd.prog W = .ok 3 W := by kernel_rfl
theorem infoOpsM : (Tryd.prog.info? 22).map (fun i => (i.zero, i.size, i.bytes)) = some (some (.slice none 0 0), 1, 24) := by kernel_rfl
/-- A list of ops but its first one. -/
theorem cut_tailM {w : World} {A : Option Addr} {c : Nat} {o : Op3} {r : List Op3} (h : IsOps w (.slice A (r.length + 1) c) (o :: r)) (hc : r.length + 1 ≤ c) :
    ∃ b off, A = some ⟨b, off, none⟩ ∧ b < w.heap.size ∧ w.cell? ⟨b, off, none⟩ = some (.int .i64 o.1) ∧ w.cell? ⟨b, off + 1, none⟩ = some (.int .i64 o.2.1) ∧ w.cell? ⟨b, off + 2, none⟩ = some (.int .i64 o.2.2) ∧
    ∃ A1 c1, (∀ W, (Instr.sliceAt 22 (.slice A (r.length + 1) c) (some (.int .i64 1)) none none).run Tryd.prog W = .ok (.slice A1 r.length c1) W) ∧ r.length ≤ c1 ∧ IsOps w (.slice A1 r.length c1) r := by
  obtain ⟨ad', b, off, cap', hv, ha, hn, hbB, hops⟩ := h
  simp only [Value.slice.injEq] at hv
  obtain ⟨rfl, _, rfl⟩ := hv
  obtain rfl := ha (by simp)
  have hb : b < w.heap.size := by
    rcases hbB with h | h
    · exact h
    · cases h
  obtain ⟨c0, c1, c2⟩ := hops 0 (by simp)
  refine ⟨b, off, rfl, hb, by simpa using c0, by simpa using c1, by simpa using c2, if c = 1 then some ⟨b, off, none⟩ else some ⟨b, off + 3, none⟩, c - 1, fun W => ?_, by omega, _, b, off + 3, _, rfl, fun hp => ?_, fun h0 => ?_, .inl hb, fun i hi => ?_⟩
  · rw [run_sliceAt_slice W _ _ _ _ _ elem_opsM, run_slice_l W _ _ _ _ elem_opsM _ _ (by omega) (by omega), size_opM]
    simp [Result.andThen, sliced, Addr.add]
  · rw [if_neg (by omega)]
  · split at h0 <;> cases h0
  · have := hops (i + 1) (by simpa using hi)
    rw [show off + (i + 1) * 3 = off + 3 + i * 3 by omega] at this
    simpa using this
def partM (n : Nat) (rows : Nat → List Op3) (d : Nat) : List (List Op3) := match rows d with
  | [] => []
  | o :: r => (mixG n (rowSet rows d r)).map (o :: ·)
def mixTo (n : Nat) (rows : Nat → List Op3) (j : Nat) : List (List Op3) := (List.range j).flatMap fun i => partM n rows (i + 1)
theorem mixTo_six (n : Nat) (rows : Nat → List Op3) : mixTo n rows 6 = mixG (n + 1) rows := rfl
theorem mixTo_succ (n : Nat) (rows : Nat → List Op3) (j : Nat) : mixTo n rows (j + 1) = mixTo n rows j ++ partM n rows (j + 1) := by
  unfold mixTo
  rw [List.range_succ, List.flatMap_append]
  simp
theorem mixTo_len (n : Nat) (rows : Nat → List Op3) {j : Nat} (hj : j ≤ 6) (hn : n + 1 ≤ 8) : (mixTo n rows j).length ≤ 1679616 := by
  have h1 : (mixTo n rows j).length ≤ (mixTo n rows 6).length := by
    unfold mixTo
    rw [show List.range 6 = List.range (j + (6 - j)) by rw [show j + (6 - j) = 6 by omega], List.range_add, List.flatMap_append, List.length_append]
    omega
  rw [mixTo_six] at h1
  have h2 := mixG_bound (n + 1) rows
  have h3 : 6 ^ (n + 1) ≤ 6 ^ 8 := Nat.pow_le_pow_right (by decide) hn
  have h4 : (6 : Nat) ^ 8 = 1679616 := by decide
  omega
theorem own_lowM {w : World} {base base' e size n : Nat} {v : Value} {xs : List Value} (h : w.ownsRow base e size v n xs) (hb : base' ≤ base) : w.ownsRow base' e size v n xs := by
  obtain ⟨hl, hd | ⟨g, cap, cur, hv, hbg, r⟩⟩ := h
  · exact ⟨hl, .inl hd⟩
  · exact ⟨hl, .inr ⟨g, cap, cur, hv, Nat.le_trans hb hbg, r⟩⟩
theorem part_map {n : Nat} {rows : Nat → List Op3} {d : Nat} {o : Op3} {r begun : List Op3} (h : rows d = o :: r) : (partM n rows d).map (begun ++ ·) = (mixG n (rowSet rows d r)).map ((begun ++ [o]) ++ ·) := by
  unfold partM
  rw [h, List.map_map]
  congr 1
  funext y
  simp
theorem opsShape {w : World} {v : Value} {l : List Op3} (h : IsOps w v l) : ∃ ad cap, v = .slice ad l.length cap := by
  obtain ⟨ad, _, _, cap, hv, _⟩ := h
  exact ⟨ad, cap, hv⟩
theorem hid_rm {p : Prop} (h : p) : Hid p := h
set_option maxHeartbeats 16000000 in
set_option maxRecDepth 100000 in
theorem mixes_any : ∀ (n : Nat) (rows : Nat → List Op3) (begun : List Op3) (A : Nat → Option Addr) (N C : Nat → Nat) (bad : Option Addr) (bcap : Nat) (w : World), begun.length + n ≤ 8 → totR rows = n → RowsM w A N C rows → IsOps w (.slice bad begun.length bcap) begun → (∀ b, (Value.slice bad begun.length bcap).ownBlock = some b → b < w.heap.size) →
    Calls Tryd.prog 14 #[.agg (arrV A N C), .slice bad begun.length bcap, .int .i64 n] w fun e w' => ∃ v' us, e = .returned v' ∧ w'.ownsRow w.heap.size 22 1 v' us.length us ∧ ManyV w' us ((mixG n rows).map (begun ++ ·)) ∧ BlkV w' us (fun b => w.heap.size ≤ b ∨ (Value.slice bad begun.length bcap).ownBlock = some b) ∧ Below w.heap.size w w' := by
  intro n
  induction n with
  | zero =>
    intro rows begun A N C bad bcap w hlen htot hrows hbeg hblk
    unfold arrV
    have HB := hid_rm hbeg
    obtain ⟨bn, hbn⟩ : ∃ n, begun.length = n := ⟨_, rfl⟩
    rw [hbn] at HB hblk ⊢
    clear hbeg hrows htot hlen
    go_enter Tryd.func14, Tryd.ntmps14
    go_wp2_with fail
    go_ret
    obtain ⟨V, hV⟩ : ∃ V, V = (w.alloc (.cells #[.slice (A 0) (N 0) (C 0), .slice (A 1) (N 1) (C 1), .slice (A 2) (N 2) (C 2), .slice (A 3) (N 3) (C 3), .slice (A 4) (N 4) (C 4), .slice (A 5) (N 5) (C 5), .slice (A 6) (N 6) (C 6)] 40)).alloc (.cells #[.slice bad bn bcap] 22) := ⟨_, rfl⟩
    have hs : (w.alloc (.cells #[.slice (A 0) (N 0) (C 0), .slice (A 1) (N 1) (C 1), .slice (A 2) (N 2) (C 2), .slice (A 3) (N 3) (C 3), .slice (A 4) (N 4) (C 4), .slice (A 5) (N 5) (C 5), .slice (A 6) (N 6) (C 6)] 40)).heap.size = w.heap.size + 1 := by simp
    have hh : V.heap[w.heap.size + 1]? = some (.cells #[.slice bad bn bcap] 22 (0, 0)) := by rw [hV, ← hs]; exact heap_alloc_new _ _
    have hb : Below w.heap.size w V := by rw [hV]; exact ((Below.refl _ w).alloc (Nat.le_refl _) _).alloc (by simp) _
    rw [← hV]
    refine ⟨_, [.slice bad bn bcap], rfl, ⟨rfl, .inr ⟨w.heap.size + 1, 1, #[.slice bad bn bcap], rfl, by omega, hh, Nat.le_refl _, by unfold maxLen; omega, rfl, rfl⟩⟩, ⟨rfl, fun i hi => ?_⟩, fun u hu b hb2 => ?_, hb⟩
    · obtain rfl : i = 0 := by simpa [mixG] using hi
      have := HB.out.below hb (Nat.le_refl _)
      simpa [mixG] using this
    · rw [List.mem_singleton.1 hu] at hb2
      have h1 := hblk b hb2
      have h2 := hb.size
      exact ⟨.inr hb2, by omega⟩
  | succ n ih =>
    intro rows begun A N C bad bcap w hlen htot hrows hbeg hblk
    obtain ⟨i0, hi, hz0, hs0, hy0⟩ := info_parts infoOp
    have HIO : Hid (Tryd.prog.info? 57 = some i0 ∧ i0.zero = some (.agg #[.int .i64 0, .int .i64 0, .int .i64 0]) ∧ i0.size = 3 ∧ i0.bytes = 24) := ⟨hi, hz0, hs0, hy0⟩
    obtain ⟨i1, hi, hz0, hs0, hy0⟩ := info_parts infoOpsM
    have HIS : Hid (Tryd.prog.info? 22 = some i1 ∧ i1.zero = some (.slice none 0 0) ∧ i1.size = 1 ∧ i1.bytes = 24) := ⟨hi, hz0, hs0, hy0⟩
    have HIH := hid_rm ih
    have HRW := hid_rm hrows
    have HBG := hid_rm hbeg
    have HTO := hid_rm htot
    obtain ⟨bn, hbn⟩ : ∃ n, begun.length = n := ⟨_, rfl⟩
    have HBN := hid_rm hbn
    rw [hbn] at HBG hlen hblk ⊢
    have HBK := hid_rm hblk
    have hn8 : n + 1 ≤ 8 := by omega
    unfold arrV
    clear hi hz0 hs0 hy0 ih hrows hbeg htot hbn hblk
    have hne : (((n : Int) + 1) == 0) = false := beq_eq_false_iff_ne.2 (by omega)
    have hsub : IntKind.i64.wrap ((n : Int) + 1 - 1) = (n : Int) := by rw [IntKind.wrap_i64]; omega
    simp only [Int.natCast_add, Int.cast_ofNat_Int]
    go_enter Tryd.func14, Tryd.ntmps14
    go_upto_region 1 with (fail)
    obtain ⟨W, hW⟩ : ∃ W, W = w.alloc (.cells #[.slice (A 0) (N 0) (C 0), .slice (A 1) (N 1) (C 1), .slice (A 2) (N 2) (C 2), .slice (A 3) (N 3) (C 3), .slice (A 4) (N 4) (C 4), .slice (A 5) (N 5) (C 5), .slice (A 6) (N 6) (C 6)] 40) := ⟨_, rfl⟩
    rw [← hW]
    have HAR : Hid (ArrAt W w.heap.size A N C) := by show ArrAt _ _ _ _ _; rw [hW]; exact arr_new w A N C
    have hbW : Below w.heap.size w W := by rw [hW]; exact (Below.refl _ w).alloc (Nat.le_refl _) _
    have HBW := hid_rm hbW
    have HRW1 : Hid (RowsM W A N C rows) := HRW.out.below hbW
    have HBG1 : Hid (IsOps W (.slice bad bn bcap) begun) := HBG.out.below hbW (Nat.le_refl _)
    obtain ⟨B, hB⟩ : ∃ B, B = w.heap.size := ⟨_, rfl⟩
    have HBB := hid_rm hB
    rw [← hB] at HAR ⊢
    clear hW hbW hB HRW HBG
    go_wp2_with fail
    go_loopw [7, 8, 9, 10, 11] (fun v7 v8 _ _ _ V => ∃ (j : Nat) (us : List Value), j ≤ 6 ∧ v8 = .int .i64 ((j : Int) + 1) ∧ V.ownsRow W.heap.size 22 1 v7 us.length us ∧ ManyV V us ((mixTo n rows j).map (begun ++ ·)) ∧ BlkV V us (fun b => W.heap.size ≤ b) ∧ (∀ u ∈ us, ∀ b, u.ownBlock = some b → v7.ownBlock ≠ some b) ∧ Below W.heap.size W V) (fun _ v8 _ _ _ _ => 7 - (intOf v8).toNat)
    case atStart => exact ⟨0, [], Nat.zero_le _, rfl, World.ownsRow_nil _ _ _ _, ManyV.nil _, fun u hu => (by cases hu), fun u hu => (by cases hu), Below.refl _ _⟩
    case round =>
      obtain ⟨j, us, hj, rfl, hown, hmany, hbv, hap, hbel⟩ := hrel
      have HBV := hid_rm hbv
      have HAP := hid_rm hap
      have HOWN := hid_rm hown
      have HMY := hid_rm hmany
      have HBE := hid_rm hbel
      clear hown hmany hbv hap
      by_cases hj6 : j < 6
      · have hj' : (j : Int) + 1 ≤ 6 := by omega
        have HAW : Hid (ArrAt wr B A N C) := HAR.out.below hbel HAR.out.lt
        have cd : wr.cell? ⟨B, j + 1, none⟩ = some (.slice (A (j + 1)) (N (j + 1)) (C (j + 1))) := HAW.out.cell (by omega)
        obtain ⟨r1, r2, r3⟩ := HRW1.out (j + 1) (by omega) (by omega)
        cases hr : rows (j + 1) with
        | nil =>
          have hz : N (j + 1) = 0 := by rw [r1, hr]; rfl
          have HPN : Hid (mixTo n rows (j + 1) = mixTo n rows j) := by show _ = _; rw [mixTo_succ]; unfold partM; rw [hr]; simp
          rw [hz] at cd
          clear r1 r2 r3 hz hr hbel
          go_wp2_with fail
          go_roundw
          case rel => exact ⟨j + 1, us, by omega, by go_num, HOWN.out, by rw [HPN.out]; exact HMY.out, HBV.out, HAP.out, HBE.out⟩
          case measure => simp [intOf]; omega
        | cons o r =>
          have hN : N (j + 1) = r.length + 1 := by rw [r1, hr]; rfl
          rw [hN, hr] at r3
          rw [hN] at r2 cd
          obtain ⟨b, off, hA, hbl, k0, k1, k2, A1, c1, hrun, hc1, hI1⟩ := cut_tailM r3 r2
          rw [hA] at cd hrun
          obtain ⟨t, a, x⟩ := o
          simp only at k0 k1 k2
          have HPM := hid_rm (part_map (n := n) (begun := begun) hr)
          have HTS := hid_rm (totR_set (show 1 ≤ j + 1 by omega) (by omega) hr)
          have HI1 := hid_rm hI1
          have HC1 := hid_rm hc1
          have HK0 : Hid (∀ V, Below W.heap.size W V → V.cell? ⟨b, off, none⟩ = some (.int .i64 t) ∧ V.cell? ⟨b, off + 1, none⟩ = some (.int .i64 a) ∧ V.cell? ⟨b, off + 2, none⟩ = some (.int .i64 x)) := fun V hV => ⟨(hV.cell (p := ⟨b, off, none⟩) hbl).trans k0, (hV.cell (p := ⟨b, off + 1, none⟩) hbl).trans k1, (hV.cell (p := ⟨b, off + 2, none⟩) hbl).trans k2⟩
          have hm0 : ((((r.length + 1 : Nat) : Int)) == 0) = false := beq_eq_false_iff_ne.2 (by omega)
          have a0 := HAW.out.cell (show 0 < 7 by decide)
          have a1 := HAW.out.cell (show 1 < 7 by decide)
          have a2 := HAW.out.cell (show 2 < 7 by decide)
          have a3 := HAW.out.cell (show 3 < 7 by decide)
          have a4 := HAW.out.cell (show 4 < 7 by decide)
          have a5 := HAW.out.cell (show 5 < 7 by decide)
          have a6 := HAW.out.cell (show 6 < 7 by decide)
          have HCD := hid_rm cd
          have HBr : Hid (B < wr.heap.size) := HAW.out.lt
          obtain ⟨rl, hrl⟩ : ∃ n, r.length = n := ⟨_, rfl⟩
          rw [hrl] at hrun cd hm0 HC1 HI1 HCD
          have HRL := hid_rm hrl
          clear r1 r2 r3 hI1 hc1 hA hN hbl k0 k1 k2 hr hbel hrl
          go_upto_region 9 with (fail)
          obtain ⟨V1, hV1⟩ : ∃ V, V = wr.alloc (.cells #[.slice (A 0) (N 0) (C 0), .slice (A 1) (N 1) (C 1), .slice (A 2) (N 2) (C 2), .slice (A 3) (N 3) (C 3), .slice (A 4) (N 4) (C 4), .slice (A 5) (N 5) (C 5), .slice (A 6) (N 6) (C 6)] 40) := ⟨_, rfl⟩
          obtain ⟨B2, hB2⟩ : ∃ B, B = wr.heap.size := ⟨_, rfl⟩
          rw [← hV1, ← hB2]
          have HA1 : Hid (ArrAt V1 B2 A N C) := by show ArrAt _ _ _ _ _; rw [hV1, hB2]; exact arr_new wr A N C
          have hb1 : Below wr.heap.size wr V1 := by rw [hV1]; exact (Below.refl _ wr).alloc (Nat.le_refl _) _
          have HBR1 := hid_rm hb1
          have HB2 : Hid (wr.heap.size = B2) := hB2.symm
          have cd1 := (hb1.cell (p := ⟨B, j + 1, none⟩) HBr.out).trans HCD.out
          have ed := HA1.out.cell (show j + 1 < 7 by omega)
          have fd := HA1.out.thaw (j + 1)
          clear hV1 hB2 hb1 a0 a1 a2 a3 a4 a5 a6 cd
          go_upto_region 10 with (fail)
          have HA2 := hid_rm (HA1.out.set (show j + 1 < 7 by omega) A1 rl c1)
          have HBR2 : Hid (Below wr.heap.size wr (V1.setCell ⟨B2, j + 1, none⟩ (.slice A1 rl c1))) := HBR1.out.setCell (by show wr.heap.size ≤ B2; have := HB2.out; omega) _
          obtain ⟨V2, hV2⟩ : ∃ V, V = V1.setCell ⟨B2, j + 1, none⟩ (.slice A1 rl c1) := ⟨_, rfl⟩
          rw [← hV2] at HA2 HBR2 ⊢
          obtain ⟨A2, hA2⟩ : ∃ f, f = updM A (j + 1) A1 := ⟨_, rfl⟩
          obtain ⟨N2, hN2⟩ : ∃ f, f = updM N (j + 1) rl := ⟨_, rfl⟩
          obtain ⟨C2, hC2⟩ : ∃ f, f = updM C (j + 1) c1 := ⟨_, rfl⟩
          rw [← hA2, ← hN2, ← hC2] at HA2
          have HBW2 : Hid (Below W.heap.size W V2) := HBE.out.trans (HBR2.out.mono HBE.out.size)
          have HR2 : Hid (RowsM W A2 N2 C2 (rowSet rows (j + 1) r)) := fun d d1 d6 => by
            rw [hA2, hN2, hC2]
            unfold updM rowSet
            by_cases hd : d = j + 1
            · simp only [if_pos hd]
              exact ⟨HRL.out.symm, HC1.out, HI1.out⟩
            · simp only [if_neg hd]
              exact HRW1.out d d1 d6
          have cd2 := (HBR2.out.cell (p := ⟨B, j + 1, none⟩) HBr.out).trans HCD.out
          have HSR : Hid (SrcAt V2 (.slice bad bn bcap) bn 3 (flat begun)) := by
            have := srcAt_ops (HBG1.out.below HBW2.out (Nat.le_refl _))
            rw [HBN.out] at this
            exact this
          have HS2 : Hid (wr.heap.size ≤ V2.heap.size) := HBR2.out.size
          clear hV2 hA2 hN2 hC2 cd1 ed fd HA1 HBR1 hrun
          go_upto_region 12 with (at_builtin; refine wpList_append_src V2 rfl (.tmp 32) (.tmp 33) 22 rfl V2.heap.size 57 i0 (.agg #[.int .i64 0, .int .i64 0, .int .i64 0]) 3 24 Tryd.underlying22 HIO.out.1 HIO.out.2.1 HIO.out.2.2.1 HIO.out.2.2.2 rfl (by decide) (.slice none 0 0) 0 [] rfl (World.ownsRow_nil _ _ _ _) (.slice bad bn bcap) bn (flat begun) rfl HSR.out (flat_one _) (by unfold maxLen; omega) (by omega) (Nat.le_refl _) ?_; intro v10 w5 hown5 hgr5 hap5)
          simp only [Nat.zero_add, List.nil_append] at hown5
          have hbb5 : Below V2.heap.size V2 w5 := (Below.refl _ V2).grown hgr5 (Nat.le_refl _) (fun q hq => by simp [Value.ownBlock] at hq)
          have HBR5 : Hid (Below wr.heap.size wr w5) := HBR2.out.trans (hbb5.mono HBR2.out.size)
          have HA5 : Hid (ArrAt w5 B2 A2 N2 C2) := HA2.out.below hbb5 HA2.out.lt
          have cd5 := (HBR5.out.cell (p := ⟨B, j + 1, none⟩) HBr.out).trans HCD.out
          obtain ⟨o0, o1, o2⟩ := HK0.out w5 (HBE.out.trans (HBR5.out.mono HBE.out.size))
          have HOW5 := hid_rm hown5
          have hV5 : V2.heap.size ≤ w5.heap.size := hbb5.size
          clear hown5 hgr5 hap5 hbb5 cd2
          have h5b : b < w5.heap.size := World.block_lt_of_cell? w5 _ o0
          have h5B : B < w5.heap.size := World.block_lt_of_cell? w5 _ cd5
          have hrl0 : (0 : Int) < ((rl + 1 : Nat) : Int) := by omega
          go_upto_region 13 with (at_builtin; refine wpList_append_own _ rfl (.tmp 35) (.tmp 41) 22 rfl V2.heap.size 57 i0 (.agg #[.int .i64 0, .int .i64 0, .int .i64 0]) 3 24 Tryd.underlying22 HIO.out.1 HIO.out.2.1 HIO.out.2.2.1 HIO.out.2.2.2 rfl (by decide) v10 bn (flat begun) rfl (HOW5.out.alloc _) ⟨w5.heap.size, 0, none⟩ 1 1 (flat [(t, a, x)]) rfl rfl (one_at w5 t a x) (flat_one _) (by unfold maxLen; omega) (by omega) (by simp; omega) ?_; intro v11 w6 hown6 hgr6 hnil6)
          rw [← flat_append] at hown6
          have hbb6 : Below V2.heap.size w5 w6 := ((Below.refl _ w5).alloc hV5 _).grown hgr6 (by simp; omega) (fun q hq => (HOW5.out.lt q hq).1)
          have HBR6 : Hid (Below wr.heap.size wr w6) := HBR5.out.trans (hbb6.mono HS2.out)
          have hlen6 : (begun ++ [(t, a, x)]).length = bn + 1 := by rw [List.length_append, HBN.out]; rfl
          have hI6 := isOps_own hown6 hlen6
          have hblk6 : ∀ q, v11.ownBlock = some q → V2.heap.size ≤ q ∧ q < w6.heap.size := fun q hq => hown6.lt q hq
          obtain ⟨mad, mcap, rfl⟩ := opsShape hI6
          have HA6 : Hid (ArrAt w6 B2 A2 N2 C2) := HA5.out.below hbb6 HA2.out.lt
          have HR6 : Hid (RowsM w6 A2 N2 C2 (rowSet rows (j + 1) r)) := fun d d1 d6 => ⟨(HR2.out d d1 d6).1, (HR2.out d d1 d6).2.1, (HR2.out d d1 d6).2.2.below (HBE.out.trans (HBR6.out.mono HBE.out.size)) (Nat.le_refl _)⟩
          have HTN : Hid (totR (rowSet rows (j + 1) r) = n) := by have h1 := HTS.out; have h2 := HTO.out; show _ = n; omega
          have HREC := hid_rm (HIH.out (rowSet rows (j + 1) r) (begun ++ [(t, a, x)]) A2 N2 C2 mad mcap w6 (by rw [hlen6]; omega) HTN.out HR6.out hI6 (fun q hq => (hblk6 q hq).2))
          rw [← HPM.out] at HREC
          have HBQ : Hid (∀ q, (Value.slice mad (begun ++ [(t, a, x)]).length mcap).ownBlock = some q → wr.heap.size ≤ q) := fun q hq => by have h1 := (hblk6 q hq).1; have h2 := HS2.out; omega
          rw [hlen6] at HREC HBQ ⊢
          have g0 := HA6.out.cell (show 0 < 7 by decide)
          have g1 := HA6.out.cell (show 1 < 7 by decide)
          have g2 := HA6.out.cell (show 2 < 7 by decide)
          have g3 := HA6.out.cell (show 3 < 7 by decide)
          have g4 := HA6.out.cell (show 4 < 7 by decide)
          have g5 := HA6.out.cell (show 5 < 7 by decide)
          have g6 := HA6.out.cell (show 6 < 7 by decide)
          unfold arrV at HREC
          clear hown6 hgr6 hnil6 hbb6 hI6 hblk6 HA6 HR6 HA5 HA2 HR2 HOW5 cd5 o0 o1 o2 h5b h5B hlen6 HIH HK0 HSR HI1
          go_wp2_with fail
          refine HREC.out.mono ?_
          rintro e w7 ⟨lv, us2, rfl, ho7, hm7, hk7, hb7⟩
          have HB7 : Hid (Below wr.heap.size wr w7) := HBR6.out.trans (hb7.mono HBR6.out.size)
          have HOW7 : Hid (w7.ownsRow W.heap.size 22 1 u7 us.length us) := own_below HOWN.out HB7.out (Nat.le_refl _)
          have HM7 := hid_rm hm7
          have HK7 := hid_rm hk7
          have HS7 := hid_rm (srcAt_own ho7)
          have hmt := mixTo_len n rows (show j + 1 ≤ 6 by omega) hn8
          rw [mixTo_succ, List.length_append] at hmt
          have hl1 : us.length = (mixTo n rows j).length := by rw [HMY.out.1, List.length_map]
          have hl2 : us2.length = (partM n rows (j + 1)).length := by rw [hm7.1, List.length_map]
          have hW7 : W.heap.size ≤ w7.heap.size := Nat.le_trans HBE.out.size HB7.out.size
          obtain ⟨lad, ln, lcap, rfl⟩ : ∃ ad n cap, lv = .slice ad n cap := by
            obtain ⟨_, ⟨hv, _⟩ | ⟨g, cap, cur, hv, _⟩⟩ := ho7
            · exact ⟨_, _, _, hv⟩
            · exact ⟨_, _, _, hv⟩
          have hone7 := HM7.out.one
          clear ho7 hm7 hk7 hb7 HREC g0 g1 g2 g3 g4 g5 g6
          go_wp2_with (at_builtin; refine wpList_append_src w7 rfl (.tmp 48) (.tmp 49) 24 rfl W.heap.size 22 i1 (.slice none 0 0) 1 24 Tryd.underlying24 HIS.out.1 HIS.out.2.1 HIS.out.2.2.1 HIS.out.2.2.2 rfl (by decide) u7 us.length us rfl HOW7.out (.slice lad ln lcap) us2.length us2 rfl HS7.out hone7 (by unfold maxLen; omega) (by omega) hW7 ?_; intro v8 w8 hown8 hgr8 hap8)
          have hus : ∀ u ∈ us ++ us2, ∀ q, u.ownBlock = some q → u7.ownBlock ≠ some q ∧ q < w7.heap.size ∧ W.heap.size ≤ q := fun u hu q hq => by
            rcases List.mem_append.1 hu with h | h
            · have h1 := HBV.out u h q hq
              have h2 := HB7.out.size
              exact ⟨HAP.out u h q hq, by omega, h1.1⟩
            · have h1 := HK7.out u h q hq
              have h3 := HBE.out.size
              have h4 : wr.heap.size ≤ q := by
                rcases h1.1 with h5 | h5
                · have := HBR6.out.size; omega
                · exact HBQ.out q h5
              refine ⟨fun e => ?_, h1.2, by omega⟩
              have := (HOWN.out.lt q e).2
              omega
          have hmy8 : ManyV w8 (us ++ us2) ((mixTo n rows (j + 1)).map (begun ++ ·)) := by
            rw [mixTo_succ, List.map_append]
            exact ((HMY.out.below HB7.out).app HM7.out).grown hgr8 (fun u hu q hq => (hus u hu q hq).1)
          have hb8 : Below W.heap.size W w8 := (HBE.out.trans (HB7.out.mono HBE.out.size)).grown hgr8 hW7 (fun q hq => (HOW7.out.lt q hq).1)
          have hs8 := hgr8.size
          have hfin : (∀ u ∈ us ++ us2, ∀ q, u.ownBlock = some q → v8.ownBlock ≠ some q) := fun u hu q hq e => by
            rcases hap8 q e with h | h
            · exact (hus u hu q hq).1 h
            · have := (hus u hu q hq).2.1; omega
          go_roundw
          case rel => exact ⟨j + 1, us ++ us2, by omega, by go_num, by rw [List.length_append]; exact hown8, hmy8, fun u hu q hq => ⟨(hus u hu q hq).2.2, by have := (hus u hu q hq).2.1; omega⟩, hfin, hb8⟩
          case measure => simp [intOf]; omega
      · obtain rfl : j = 6 := by omega
        clear hbel
        go_wp2_with fail
        go_ret
        have hlow := HBW.out.size
        exact ⟨_, us, rfl, own_lowM HOWN.out hlow, by rw [← mixTo_six]; exact HMY.out, fun u hu b hb => ⟨.inl (by have := (HBV.out u hu b hb).1; omega), (HBV.out u hu b hb).2⟩, HBW.out.trans (HBE.out.mono hlow)⟩
end Go.Proofs.YtmjjiehnjghndaaDoor
