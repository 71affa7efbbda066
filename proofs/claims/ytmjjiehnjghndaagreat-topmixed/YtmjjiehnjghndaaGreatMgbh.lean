/-
  PROVED HERE: append on a row of one's own, and where the row lies then: where it lay, or in a new block.
  Conditions: as the library's law of append has them.
  PROVED HERE: memory of which some blocks may turn; append onto a row of one's own that has room stays in its block; seven rows of ops, as slices in a block.
  Conditions: none.
-/
import Derived.WalkKit
import Derived.WalkSpells
import Derived.Handy
import Derived.Deep.RegionLaw
import Derived.Laws.AppendOwn
import Derived.ArgAppend
import Derived.Test.YtmjjiehnjghndaaGreatMgbg
import Derived.Deep.Cut
namespace Go.Proofs.YtmjjiehnjghndaaGreat
open Go.RowKit

theorem row_less {w : World} {base base2 e size n : Nat} {v : Value} {xs : List Value} (h : w.ownsRow base e size v n xs) (hb : base2 ≤ base) : w.ownsRow base2 e size v n xs := by
  obtain ⟨hl, hd | ⟨g, cap, cur, hv, hbg, hg, hn, hm, hsz, htk⟩⟩ := h
  · exact ⟨hl, .inl hd⟩
  · exact ⟨hl, .inr ⟨g, cap, cur, hv, Nat.le_trans hb hbg, hg, hn, hm, hsz, htk⟩⟩
theorem run_append_apart {P : Program} (w : World) (base : Nat) (t ty e : TypeId) (i : TypeInfo) (z : Value) (size bytes : Nat) (ht : P.underlying t = some (.slice e)) (hi : P.info? e = some i) (hz : i.zero = some z)
    (hsize : i.size = size) (hby : i.bytes = bytes) (hzs : z.cells.size = size) (hsz : 0 < size)
    (v : Value) (n : Nat) (xs : List Value) (hown : w.ownsRow base e size v n xs)
    (a : Addr) (m c : Nat) (news : List Value) (hl : news.length = m * size) (hnews : ∀ j u, news[j]? = some u → w.cell? (a.add j) = some u) (h1 : ∀ u ∈ news, u.oneCell' = true)
    (h63 : n + m ≤ maxLen) (hbytes : (n + m) * bytes ≤ 140737488355328) (hbase : base ≤ w.heap.size) :
    ∃ v' w', (Builtin.append_ #[t, t] ty #[v, .slice (some a) m c]).run P w = .ok v' w' ∧ w'.ownsRow base e size v' (n + m) (xs ++ news) ∧ w.grownBy w' v.ownBlock ∧
      ∀ g, v'.ownBlock = some g → v.ownBlock = some g ∨ w.heap.size ≤ g := by
  have hown' := hown
  rcases hown.2 with ⟨rfl, rfl⟩ | ⟨g, cap, cur, rfl, hbg, hg, hnc, hcm, hcs, htake⟩
  · have hx : xs = [] := List.eq_nil_of_length_eq_zero (by simpa using hown.1)
    subst hx
    obtain ⟨v', w', hr, ho, hgr, -⟩ := run_append_own (P := P) w w.heap.size t ty e i z size bytes ht hi hz hsize hby hzs hsz (.slice none 0 0) 0 [] (World.ownsRow_nil w _ e size) a m c news hl hnews h1 h63 hbytes (Nat.le_refl _)
    exact ⟨v', w', hr, row_less ho hbase, hgr, fun g hg => .inr (ho.lt g hg).1⟩
  · by_cases hroom : n + m ≤ cap
    · obtain ⟨v', w', hr, ho, hgr, -⟩ := run_append_own (P := P) w base t ty e i z size bytes ht hi hz hsize hby hzs hsz (.slice (some ⟨g, 0, none⟩) n cap) n xs hown' a m c news hl hnews h1 h63 hbytes hbase
      subst hsize
      have hfit : n * i.size + news.length ≤ cur.size := by rw [hl, hcs, ← Nat.add_mul]; exact Nat.mul_le_mul_right _ hroom
      have hr2 := run_append_room (P := P) w t ty e i ht hi g n cap cur hg a m c news hl hnews h1 hroom hfit
      rw [hr2] at hr
      injection hr with e1 e2
      subst e1
      exact ⟨_, w', by rw [hr2, e2], ho, hgr, fun q hq => .inl (by simpa [Value.ownBlock] using hq)⟩
    · obtain ⟨v', w', hr, ho, hgr⟩ := run_append_arg_grows (P := P) w t ty e i z size bytes ht hi hz hsize hby hzs hsz ⟨g, 0, none⟩ n cap xs hown.1 (hown.cells (g := g) rfl) a m c news hl hnews (by omega) h63 hbytes
      exact ⟨v', w', hr, row_less ho hbase, ⟨hgr.os, hgr.tape, hgr.output, hgr.size, fun k hk _ => hgr.block k hk (by simp)⟩, fun q hq => .inr (ho.lt q hq).1⟩
theorem wp_append_apart {P : Program} {o : Oper} {a : Act} (w : World) {K : Act → World → Prop} {Q : Exit → Act → World → Prop} (s x : Operand) (t : TypeId)
    (ho : o.op = .call { callee := .builtin .append, args := #[s, x], argTypes := #[t, t] })
    (base : Nat) (e : TypeId) (i : TypeInfo) (z : Value) (size bytes : Nat) (ht : P.underlying t = some (.slice e)) (hi : P.info? e = some i) (hz : i.zero = some z)
    (hsize : i.size = size) (hby : i.bytes = bytes) (hzs : z.cells.size = size) (hsz : 0 < size)
    (v : Value) (n : Nat) (xs : List Value) (hs : a.eval s = v) (hown : w.ownsRow base e size v n xs)
    (ad : Addr) (m c : Nat) (news : List Value) (hx : a.eval x = .slice (some ad) m c) (hl : news.length = m * size) (hnews : ∀ j u, news[j]? = some u → w.cell? (ad.add j) = some u) (h1 : ∀ u ∈ news, u.oneCell' = true)
    (h63 : n + m ≤ maxLen) (hbytes : (n + m) * bytes ≤ 140737488355328) (hbase : base ≤ w.heap.size)
    (h : ∀ v' w', w'.ownsRow base e size v' (n + m) (xs ++ news) → w.grownBy w' v.ownBlock → (∀ g, v'.ownBlock = some g → v.ownBlock = some g ∨ w.heap.size ≤ g) → K (a.put o.dst v') w') : o.wp P a w K Q := by
  obtain ⟨v', w', hr, h2, h3, h4⟩ := run_append_apart (P := P) w base t o.type e i z size bytes ht hi hz hsize hby hzs hsz v n xs hown ad m c news hl hnews h1 h63 hbytes hbase
  unfold Oper.wp execOp
  simp only [ho, resolve, invoke, builtin, Sem.run_bind, Sem.run_pure, Result.andThen_ok, List.map_toArray, List.map_cons, List.map_nil, hs, hx, hr]
  exact h v' w' h2 h3 h4
/-- As one step of a region that draws. -/
theorem step_append_apart {P : Program} {ops : Array Oper} {o : Oper} {a : Act} {w : World} {K : Act → World → Prop} {Q : Exit → Act → World → Prop} {E : Prop}
    (hgd : o.guard = none) (s x : Operand) (t : TypeId) (ho : o.op = .call { callee := .builtin .append, args := #[s, x], argTypes := #[t, t] })
    (base : Nat) (e : TypeId) (i : TypeInfo) (z : Value) (size bytes : Nat) (ht : P.underlying t = some (.slice e)) (hi : P.info? e = some i) (hz : i.zero = some z)
    (hsize : i.size = size) (hby : i.bytes = bytes) (hzs : z.cells.size = size) (hsz : 0 < size)
    (v : Value) (n : Nat) (xs : List Value) (hs : a.eval s = v) (hown : w.ownsRow base e size v n xs)
    (ad : Addr) (m c : Nat) (news : List Value) (hx : a.eval x = .slice (some ad) m c) (hl : news.length = m * size) (hnews : ∀ j u, news[j]? = some u → w.cell? (ad.add j) = some u) (h1 : ∀ u ∈ news, u.oneCell' = true)
    (h63 : n + m ≤ maxLen) (hbytes : (n + m) * bytes ≤ 140737488355328) (hbase : base ≤ w.heap.size)
    (h : ∀ v' w', w'.ownsRow base e size v' (n + m) (xs ++ news) → w.grownBy w' v.ownBlock → (∀ g, v'.ownBlock = some g → v.ownBlock = some g ∨ w.heap.size ≤ g) → K (a.put o.dst v') w') :
    if Region.wanted o (yielded ops a.tmps) = true then Oper.wp P o a w K Q else E := by
  have hw : Region.wanted o (yielded ops a.tmps) = true := by simp [Region.wanted, hgd]
  rw [if_pos hw]
  exact wp_append_apart w s x t ho base e i z size bytes ht hi hz hsize hby hzs hsz v n xs hs hown ad m c news hx hl hnews h1 h63 hbytes hbase h
/-- As an operation of a region in the text's order. -/
theorem wpList_append_apart {P : Program} (w : World) {ops : Array Oper} {rest : List Oper} {o : Oper} {a : Act} {Q : Exit → Act → World → Prop} (hgd : o.guard = none) (s x : Operand) (t : TypeId)
    (ho : o.op = .call { callee := .builtin .append, args := #[s, x], argTypes := #[t, t] })
    (base : Nat) (e : TypeId) (i : TypeInfo) (z : Value) (size bytes : Nat) (ht : P.underlying t = some (.slice e)) (hi : P.info? e = some i) (hz : i.zero = some z)
    (hsize : i.size = size) (hby : i.bytes = bytes) (hzs : z.cells.size = size) (hsz : 0 < size)
    (v : Value) (n : Nat) (xs : List Value) (hs : a.eval s = v) (hown : w.ownsRow base e size v n xs)
    (ad : Addr) (m c : Nat) (news : List Value) (hx : a.eval x = .slice (some ad) m c) (hl : news.length = m * size) (hnews : ∀ j u, news[j]? = some u → w.cell? (ad.add j) = some u) (h1 : ∀ u ∈ news, u.oneCell' = true)
    (h63 : n + m ≤ maxLen) (hbytes : (n + m) * bytes ≤ 140737488355328) (hbase : base ≤ w.heap.size)
    (h : ∀ v' w', w'.ownsRow base e size v' (n + m) (xs ++ news) → w.grownBy w' v.ownBlock → (∀ g, v'.ownBlock = some g → v.ownBlock = some g ∨ w.heap.size ≤ g) → wpList P ops Q rest (a.put o.dst v') w') : wpList P ops Q (o :: rest) a w :=
  wpList_plain hgd fun _ hK => wp_append_apart w s x t ho base e i z size bytes ht hi hz hsize hby hzs hsz v n xs hs hown ad m c news hx hl hnews h1 h63 hbytes hbase fun v' w' h2 h3 h4 => hK _ _ (h v' w' h2 h3 h4)
theorem apart_later {w : World} {o : Obj} {v v' : Value} (h : ∀ g, v'.ownBlock = some g → v.ownBlock = some g ∨ (w.drew.alloc o).heap.size ≤ g) : ∀ g, v'.ownBlock = some g → v.ownBlock = some g ∨ w.heap.size ≤ g := fun g hg => by
  rcases h g hg with h | h
  · exact .inl h
  · have h2 : (w.drew.alloc o).heap.size = w.heap.size + 1 := by simp
    exact .inr (by omega)
end Go.Proofs.YtmjjiehnjghndaaGreat

namespace Go.Proofs.YtmjjiehnjghndaaGreat
open Go.RowKit

theorem hid_mm {p : Prop} (h : p) : Hid p := h
/-- Of what was there just the blocks of A may have turned. -/
structure TurnM (A : Nat → Prop) (w w' : World) : Prop where
  os : w'.os = w.os
  tape : w'.tape = w.tape
  output : w'.output = w.output
  size : w.heap.size ≤ w'.heap.size
  block : ∀ k, k < w.heap.size → ¬ A k → w'.heap[k]? = w.heap[k]?
theorem TurnM.refl (A : Nat → Prop) (w : World) : TurnM A w w := ⟨rfl, rfl, rfl, Nat.le_refl _, fun _ _ _ => rfl⟩
theorem TurnM.trans {A : Nat → Prop} {a b c : World} (h : TurnM A a b) (k : TurnM A b c) : TurnM A a c :=
  ⟨k.os.trans h.os, k.tape.trans h.tape, k.output.trans h.output, Nat.le_trans h.size k.size, fun i hi hA => (k.block i (by have := h.size; omega) hA).trans (h.block i hi hA)⟩
theorem TurnM.mono {A A' : Nat → Prop} {a b : World} (h : TurnM A a b) (hA : ∀ k, A k → A' k) : TurnM A' a b := ⟨h.os, h.tape, h.output, h.size, fun k hk hn => h.block k hk fun e => hn (hA k e)⟩
theorem TurnM.below {A : Nat → Prop} {a b : World} (h : Below a.heap.size a b) : TurnM A a b := ⟨h.os, h.tape, h.output, h.size, fun k hk _ => h.block k hk⟩
theorem TurnM.alloc {A : Nat → Prop} {a b : World} (h : TurnM A a b) (o : Obj) : TurnM A a (b.alloc o) := h.trans (TurnM.below ((Below.refl _ b).alloc (Nat.le_refl _) o))
theorem TurnM.drew {A : Nat → Prop} {a b : World} (h : TurnM A a b) : TurnM A a b.drew := h.trans (TurnM.below (Below.refl _ b).drew)
theorem TurnM.grown {A : Nat → Prop} {a b c : World} {row : Option Nat} (h : TurnM A a b) (hg : b.grownBy c row) (hr : ∀ k, row = some k → A k) : TurnM A a c :=
  h.trans ⟨hg.os, hg.tape, hg.output, hg.size, fun k hk hn => hg.block k hk fun e => hn (hr k e.symm)⟩
theorem TurnM.set {A : Nat → Prop} {a b : World} (h : TurnM A a b) {p : Addr} (hp : A p.block) (u : Value) : TurnM A a (b.setCell p u) :=
  h.trans ⟨rfl, rfl, rfl, by simp [World.setCell], fun k _ hn => Below.heap_setCell _ _ _ _ (fun e => hn (e ▸ hp))⟩
theorem TurnM.setNew {A : Nat → Prop} {a b : World} (h : TurnM A a b) {p : Addr} (hp : a.heap.size ≤ p.block) (u : Value) : TurnM A a (b.setCell p u) :=
  ⟨h.os, h.tape, h.output, by have := h.size; simpa [World.setCell] using this, fun k hk hn => (Below.heap_setCell _ _ _ _ (by omega)).trans (h.block k hk hn)⟩
theorem TurnM.cell {A : Nat → Prop} {a b : World} (h : TurnM A a b) {p : Addr} {v : Value} (hc : a.cell? p = some v) (hA : ¬ A p.block) : b.cell? p = some v :=
  (World.cell?_of_block (h.block p.block (World.block_lt_of_cell? a p hc) hA)).trans hc
theorem TurnM.thaw {A : Nat → Prop} {a b : World} (h : TurnM A a b) {p : Addr} (hp : p.block < a.heap.size) (hA : ¬ A p.block) : b.frozen? p = a.frozen? p := World.frozen?_of_block (h.block p.block hp hA)
theorem TurnM.own {A : Nat → Prop} {a b : World} (h : TurnM A a b) {base e size n : Nat} {v : Value} {xs : List Value} (ho : a.ownsRow base e size v n xs) (hA : ∀ g, v.ownBlock = some g → ¬ A g) : b.ownsRow base e size v n xs := by
  have hlt := ho.lt
  obtain ⟨hl, hd | ⟨g, cap, cur, hv, hbg, hg, r⟩⟩ := ho
  · exact ⟨hl, .inl hd⟩
  · have hb : v.ownBlock = some g := by rw [hv]; rfl
    exact ⟨hl, .inr ⟨g, cap, cur, hv, hbg, (h.block g (hlt g hb).2 (hA g hb)).trans hg, r⟩⟩
theorem TurnM.ops {A : Nat → Prop} {w w1 : World} (h : TurnM A w w1) {v : Value} {l : List Op3} (hI : IsOps w v l) (hA : ∀ b, v.ownBlock = some b → ¬ A b) : IsOps w1 v l := by
  obtain ⟨ad, b, off, cap, hv, ha, hn, hbB, hops⟩ := hI
  have hs := h.size
  refine ⟨ad, b, off, cap, hv, ha, hn, hbB.imp (fun h => by omega) id, fun k hk => ?_⟩
  have hb : v.ownBlock = some b := by rw [hv, ha (by omega)]; rfl
  obtain ⟨c0, c1, c2⟩ := hops k hk
  exact ⟨h.cell c0 (hA b hb), h.cell c1 (hA b hb), h.cell c2 (hA b hb)⟩
/-- append onto a row of one's own that has room for it: the row stays where it lies. -/
theorem run_append_fits {P : Program} (w : World) (base : Nat) (t ty e : TypeId) (i : TypeInfo) (z : Value) (size bytes : Nat) (ht : P.underlying t = some (.slice e)) (hi : P.info? e = some i) (hz : i.zero = some z)
    (hsize : i.size = size) (hby : i.bytes = bytes) (hzs : z.cells.size = size) (hsz : 0 < size)
    (g n cap : Nat) (xs : List Value) (hown : w.ownsRow base e size (.slice (some ⟨g, 0, none⟩) n cap) n xs)
    (a : Addr) (m c : Nat) (news : List Value) (hl : news.length = m * size) (hnews : ∀ j u, news[j]? = some u → w.cell? (a.add j) = some u) (h1 : ∀ u ∈ news, u.oneCell' = true)
    (hroom : n + m ≤ cap) (h63 : n + m ≤ maxLen) (hbytes : (n + m) * bytes ≤ 140737488355328) (hbase : base ≤ w.heap.size) :
    ∃ w', (Builtin.append_ #[t, t] ty #[.slice (some ⟨g, 0, none⟩) n cap, .slice (some a) m c]).run P w = .ok (.slice (some ⟨g, 0, none⟩) (n + m) cap) w' ∧ w'.ownsRow base e size (.slice (some ⟨g, 0, none⟩) (n + m) cap) (n + m) (xs ++ news) ∧ w.grownBy w' (some g) := by
  obtain ⟨v', w', hr, ho, hgr, -⟩ := run_append_own (P := P) w base t ty e i z size bytes ht hi hz hsize hby hzs hsz (.slice (some ⟨g, 0, none⟩) n cap) n xs hown a m c news hl hnews h1 h63 hbytes hbase
  obtain ⟨_, ⟨h, _⟩ | ⟨g', cap', cur, hv, _, hg, _, _, hcs, _⟩⟩ := hown
  · cases h
  · simp only [Value.slice.injEq, Option.some.injEq, Addr.mk.injEq, and_true, true_and] at hv
    obtain ⟨rfl, rfl⟩ := hv
    subst hsize
    have hfit : n * i.size + news.length ≤ cur.size := by rw [hl, hcs, ← Nat.add_mul]; exact Nat.mul_le_mul_right _ hroom
    have hr2 := run_append_room (P := P) w t ty e i ht hi g n cap cur hg a m c news hl hnews h1 hroom hfit
    rw [hr2] at hr
    injection hr with e1 e2
    subst e1
    exact ⟨w', by rw [hr2, e2], ho, hgr⟩
theorem wp_append_fits {P : Program} {o : Oper} {a : Act} (w : World) {K : Act → World → Prop} {Q : Exit → Act → World → Prop} (s x : Operand) (t : TypeId)
    (ho : o.op = .call { callee := .builtin .append, args := #[s, x], argTypes := #[t, t] })
    (base : Nat) (e : TypeId) (i : TypeInfo) (z : Value) (size bytes : Nat) (ht : P.underlying t = some (.slice e)) (hi : P.info? e = some i) (hz : i.zero = some z)
    (hsize : i.size = size) (hby : i.bytes = bytes) (hzs : z.cells.size = size) (hsz : 0 < size)
    (g n cap : Nat) (xs : List Value) (hs : a.eval s = .slice (some ⟨g, 0, none⟩) n cap) (hown : w.ownsRow base e size (.slice (some ⟨g, 0, none⟩) n cap) n xs)
    (ad : Addr) (m c : Nat) (news : List Value) (hx : a.eval x = .slice (some ad) m c) (hl : news.length = m * size) (hnews : ∀ j u, news[j]? = some u → w.cell? (ad.add j) = some u) (h1 : ∀ u ∈ news, u.oneCell' = true)
    (hroom : n + m ≤ cap) (h63 : n + m ≤ maxLen) (hbytes : (n + m) * bytes ≤ 140737488355328) (hbase : base ≤ w.heap.size)
    (h : ∀ w', w'.ownsRow base e size (.slice (some ⟨g, 0, none⟩) (n + m) cap) (n + m) (xs ++ news) → w.grownBy w' (some g) → K (a.put o.dst (.slice (some ⟨g, 0, none⟩) (n + m) cap)) w') : o.wp P a w K Q := by
  obtain ⟨w', hr, h2, h3⟩ := run_append_fits (P := P) w base t o.type e i z size bytes ht hi hz hsize hby hzs hsz g n cap xs hown ad m c news hl hnews h1 hroom h63 hbytes hbase
  unfold Oper.wp execOp
  simp only [ho, resolve, invoke, builtin, Sem.run_bind, Sem.run_pure, Result.andThen_ok, List.map_toArray, List.map_cons, List.map_nil, hs, hx, hr]
  exact h w' h2 h3
/-- As one step of a region that draws. -/
theorem step_append_fits {P : Program} {ops : Array Oper} {o : Oper} {a : Act} {w : World} {K : Act → World → Prop} {Q : Exit → Act → World → Prop} {E : Prop}
    (hgd : o.guard = none) (s x : Operand) (t : TypeId) (ho : o.op = .call { callee := .builtin .append, args := #[s, x], argTypes := #[t, t] })
    (base : Nat) (e : TypeId) (i : TypeInfo) (z : Value) (size bytes : Nat) (ht : P.underlying t = some (.slice e)) (hi : P.info? e = some i) (hz : i.zero = some z)
    (hsize : i.size = size) (hby : i.bytes = bytes) (hzs : z.cells.size = size) (hsz : 0 < size)
    (g n cap : Nat) (xs : List Value) (hs : a.eval s = .slice (some ⟨g, 0, none⟩) n cap) (hown : w.ownsRow base e size (.slice (some ⟨g, 0, none⟩) n cap) n xs)
    (ad : Addr) (m c : Nat) (news : List Value) (hx : a.eval x = .slice (some ad) m c) (hl : news.length = m * size) (hnews : ∀ j u, news[j]? = some u → w.cell? (ad.add j) = some u) (h1 : ∀ u ∈ news, u.oneCell' = true)
    (hroom : n + m ≤ cap) (h63 : n + m ≤ maxLen) (hbytes : (n + m) * bytes ≤ 140737488355328) (hbase : base ≤ w.heap.size)
    (h : ∀ w', w'.ownsRow base e size (.slice (some ⟨g, 0, none⟩) (n + m) cap) (n + m) (xs ++ news) → w.grownBy w' (some g) → K (a.put o.dst (.slice (some ⟨g, 0, none⟩) (n + m) cap)) w') :
    if Region.wanted o (yielded ops a.tmps) = true then Oper.wp P o a w K Q else E := by
  have hw : Region.wanted o (yielded ops a.tmps) = true := by simp [Region.wanted, hgd]
  rw [if_pos hw]
  exact wp_append_fits w s x t ho base e i z size bytes ht hi hz hsize hby hzs hsz g n cap xs hs hown ad m c news hx hl hnews h1 hroom h63 hbytes hbase h
def arrN (A : Nat → Option Addr) (N C : Nat → Nat) : Array Value := #[.slice (A 0) (N 0) (C 0), .slice (A 1) (N 1) (C 1), .slice (A 2) (N 2) (C 2), .slice (A 3) (N 3) (C 3), .slice (A 4) (N 4) (C 4), .slice (A 5) (N 5) (C 5), .slice (A 6) (N 6) (C 6)]
/-- Seven slices in a block. -/
def LnAt (w : World) (B : Nat) (A : Nat → Option Addr) (N C : Nat → Nat) : Prop := w.heap[B]? = some (.cells (arrN A N C) 72 (0, 0))
theorem LnAt.lt {w : World} {B : Nat} {A : Nat → Option Addr} {N C : Nat → Nat} (h : LnAt w B A N C) : B < w.heap.size := by
  have h' : w.heap[B]? = some _ := h
  exact (Array.getElem?_eq_some_iff.1 h').1
theorem LnAt.same {w w1 : World} {B : Nat} {A : Nat → Option Addr} {N C : Nat → Nat} (h : LnAt w B A N C) (hb : w1.heap[B]? = w.heap[B]?) : LnAt w1 B A N C := hb.trans h
theorem LnAt.cell {w : World} {B : Nat} {A : Nat → Option Addr} {N C : Nat → Nat} (h : LnAt w B A N C) {k : Nat} (hk : k < 7) : w.cell? ⟨B, k, none⟩ = some (.slice (A k) (N k) (C k)) := by
  rw [cell_of_row w B _ _ _ _ h]
  match k, hk with
  | 0, _ => rfl
  | 1, _ => rfl
  | 2, _ => rfl
  | 3, _ => rfl
  | 4, _ => rfl
  | 5, _ => rfl
  | 6, _ => rfl
theorem LnAt.thaw {w : World} {B : Nat} {A : Nat → Option Addr} {N C : Nat → Nat} (h : LnAt w B A N C) (k : Nat) : w.frozen? ⟨B, k, none⟩ = false := by
  have h' : w.heap[B]? = some _ := h
  simp [World.frozen?, h']
def updN {α : Type} (f : Nat → α) (d : Nat) (x : α) : Nat → α := fun k => if k = d then x else f k
theorem LnAt.set {w : World} {B : Nat} {A : Nat → Option Addr} {N C : Nat → Nat} (h : LnAt w B A N C) {d : Nat} (hd : d < 7) (a : Option Addr) (n c : Nat) : LnAt (w.setCell ⟨B, d, none⟩ (.slice a n c)) B (updN A d a) (updN N d n) (updN C d c) := by
  have h' : w.heap[B]? = some (.cells (arrN A N C) 72 (0, 0)) := h
  unfold LnAt World.setCell
  simp only [Array.getElem?_modify, h', if_true, Option.map_some]
  congr 2
  match d, hd with
  | 0, _ => rfl
  | 1, _ => rfl
  | 2, _ => rfl
  | 3, _ => rfl
  | 4, _ => rfl
  | 5, _ => rfl
  | 6, _ => rfl
theorem ln_new (w : World) (A : Nat → Option Addr) (N C : Nat → Nat) : LnAt (w.alloc (.cells (arrN A N C) 72)) w.heap.size A N C := by
  unfold LnAt World.alloc
  simp
/-- The rows of an array of slices: none is in the way of what turns. -/
structure RowsN (w : World) (Ch : Nat → Prop) (A : Nat → Option Addr) (N C : Nat → Nat) (rows : Nat → List Op3) : Prop where
  none : rows 0 = []
  len : ∀ d, d < 7 → N d = (rows d).length ∧ N d ≤ C d
  ops : ∀ d, d < 7 → IsOps w (.slice (A d) (N d) (C d)) (rows d)
  far : ∀ d, d < 7 → ∀ b, (Value.slice (A d) (N d) (C d)).ownBlock = some b → ¬ Ch b
theorem RowsN.turn {w w1 : World} {Ch : Nat → Prop} {A : Nat → Option Addr} {N C : Nat → Nat} {rows : Nat → List Op3} (h : RowsN w Ch A N C rows) (ht : TurnM Ch w w1) : RowsN w1 Ch A N C rows :=
  ⟨h.none, h.len, fun d hd => ht.ops (h.ops d hd) (h.far d hd), h.far⟩
theorem elem_opsN : Tryz.prog.underlying 22 = some (.slice (Tryz.prog.elem 22)) := by kernel_rfl
theorem size_opN (W : World) : (sizeOf (Tryz.prog.elem 22)).run Tryz.prog W = .ok 3 W := by kernel_rfl
/-- A list of ops but its first one. -/
theorem cut_tailN {w : World} {A : Option Addr} {c : Nat} {o : Op3} {r : List Op3} (h : IsOps w (.slice A (r.length + 1) c) (o :: r)) (hc : r.length + 1 ≤ c) :
    ∃ b off, A = some ⟨b, off, none⟩ ∧ b < w.heap.size ∧ w.cell? ⟨b, off, none⟩ = some (.int .i64 o.1) ∧ w.cell? ⟨b, off + 1, none⟩ = some (.int .i64 o.2.1) ∧ w.cell? ⟨b, off + 2, none⟩ = some (.int .i64 o.2.2) ∧
    ∃ A1 c1, (∀ W, (Instr.sliceAt 22 (.slice A (r.length + 1) c) (some (.int .i64 1)) none none).run Tryz.prog W = .ok (.slice A1 r.length c1) W) ∧ r.length ≤ c1 ∧ IsOps w (.slice A1 r.length c1) r ∧ ∀ q, (Value.slice A1 r.length c1).ownBlock = some q → q = b := by
  obtain ⟨ad', b, off, cap', hv, ha, hn, hbB, hops⟩ := h
  simp only [Value.slice.injEq] at hv
  obtain ⟨rfl, _, rfl⟩ := hv
  obtain rfl := ha (by simp)
  have hb : b < w.heap.size := by
    rcases hbB with h | h
    · exact h
    · cases h
  obtain ⟨c0, c1, c2⟩ := hops 0 (by simp)
  refine ⟨b, off, rfl, hb, by simpa using c0, by simpa using c1, by simpa using c2, if c = 1 then some ⟨b, off, none⟩ else some ⟨b, off + 3, none⟩, c - 1, fun W => ?_, by omega, ⟨_, b, off + 3, _, rfl, fun hp => ?_, fun h0 => ?_, .inl hb, fun i hi => ?_⟩, fun q hq => ?_⟩
  · rw [run_sliceAt_slice W _ _ _ _ _ elem_opsN, run_slice_l W _ _ _ _ elem_opsN _ _ (by omega) (by omega), size_opN]
    simp [Result.andThen, sliced, Addr.add]
  · rw [if_neg (by omega)]
  · split at h0 <;> cases h0
  · have := hops (i + 1) (by simpa using hi)
    rw [show off + (i + 1) * 3 = off + 3 + i * 3 by omega] at this
    simpa using this
  · split at hq <;> simpa [Value.ownBlock] using hq.symm
theorem ops_takeN {w : World} {base e g n cap k : Nat} {l : List Op3} (h : w.ownsRow base e 3 (.slice (some ⟨g, 0, none⟩) n cap) n (flat l)) (hk : k ≤ n) (hl : l.length = n) : w.ownsRow base e 3 (.slice (some ⟨g, 0, none⟩) k cap) k (flat (l.take k)) := by
  have hf : (flat l).take (k * 3) = flat (l.take k) := by
    have h1 : flat l = flat (l.take k) ++ flat (l.drop k) := by rw [← flat_append, List.take_append_drop]
    have h2 : (flat (l.take k)).length = k * 3 := by rw [flat_length, List.length_take]; omega
    rw [h1, ← h2]; exact List.take_left
  obtain ⟨hlen, ⟨hv, _⟩ | ⟨g', cap', cur, hv, hb, hg, hn, hm, hs, ht⟩⟩ := h
  · cases hv
  · simp only [Value.slice.injEq, Option.some.injEq, Addr.mk.injEq, and_true, true_and] at hv
    obtain ⟨rfl, rfl⟩ := hv
    refine ⟨by rw [flat_length, List.length_take]; omega, .inr ⟨g, cap, cur, rfl, hb, hg, by omega, hm, hs, ?_⟩⟩
    rw [← hf, ← ht, List.take_take, Nat.min_eq_left (Nat.mul_le_mul_right _ hk)]
end Go.Proofs.YtmjjiehnjghndaaGreat
