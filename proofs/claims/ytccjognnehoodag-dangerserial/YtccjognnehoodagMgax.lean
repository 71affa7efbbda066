/-
  PROVED HERE: append on a row of one's own, of nothing or of another slice, and where the row lies then.
  Conditions: as the library's law of append has them.
  PROVED HERE: lanelaw2.some, which calls itself, answers yes or no, and yes if behind its beginning there is an order of those that are done by which an outcome is so. Old memory stays as it was.
  Conditions: the lists are short; of each deal the outcome tells a Read for each of its own.
-/
import Derived.Test.YtccjognnehoodagMgaw
import Derived.Test.YtccjognnehoodagMgac
import Derived.Laws.OwnMore
import Derived.Test.YtccjognnehoodagMgah
namespace Go.Proofs.Ytccjognnehoodag
open Go.RowKit

/-- A source: nothing, or cells at an address. -/
def SrcAt (w : World) (x : Value) (m size : Nat) (news : List Value) : Prop := (x = .slice none 0 0 ∧ m = 0 ∧ news = []) ∨ ∃ ad c, x = .slice (some ad) m c ∧ news.length = m * size ∧ ∀ j u, news[j]? = some u → w.cell? (ad.add j) = some u
theorem wp_append_src {P : Program} {o : Oper} {a : Act} (w : World) {K : Act → World → Prop} {Q : Exit → Act → World → Prop} (s x : Operand) (t : TypeId)
    (ho : o.op = .call { callee := .builtin .append, args := #[s, x], argTypes := #[t, t] })
    (base : Nat) (e : TypeId) (i : TypeInfo) (z : Value) (size bytes : Nat) (ht : P.underlying t = some (.slice e)) (hi : P.info? e = some i) (hz : i.zero = some z)
    (hsize : i.size = size) (hby : i.bytes = bytes) (hzs : z.cells.size = size) (hsz : 0 < size)
    (v : Value) (n : Nat) (xs : List Value) (hs : a.eval s = v) (hown : w.ownsRow base e size v n xs)
    (xv : Value) (m : Nat) (news : List Value) (hx : a.eval x = xv) (hnews : SrcAt w xv m size news) (h1 : ∀ u ∈ news, u.oneCell' = true)
    (h63 : n + m ≤ maxLen) (hbytes : (n + m) * bytes ≤ 140737488355328) (hbase : base ≤ w.heap.size)
    (h : ∀ v' w', w'.ownsRow base e size v' (n + m) (xs ++ news) → w.grownBy w' v.ownBlock → (∀ g, v'.ownBlock = some g → v.ownBlock = some g ∨ w.heap.size ≤ g) → K (a.put o.dst v') w') : o.wp P a w K Q := by
  rcases hnews with ⟨rfl, rfl, rfl⟩ | ⟨ad, c, rfl, hl, hn⟩
  · have hrun := run_append_owned_none (P := P) (w := w) base t o.type e i size ht hi v n xs hown
    unfold Oper.wp
    simp only [execOp, ho, resolve, invoke, builtin, Sem.run_bind, Sem.run_pure, Result.andThen_ok, List.map_toArray, List.map_cons, List.map_nil, hs, hx, hrun]
    refine h v w ?_ ⟨rfl, rfl, rfl, Nat.le_refl _, fun _ _ _ => rfl⟩ fun g hg => .inl hg
    rw [Nat.add_zero, List.append_nil]
    exact hown
  · exact wp_append_apart w s x t ho base e i z size bytes ht hi hz hsize hby hzs hsz v n xs hs hown ad m c news hx hl hn h1 h63 hbytes hbase h
/-- As one step of a region that draws. -/
theorem step_append_src {P : Program} {ops : Array Oper} {o : Oper} {a : Act} {w : World} {K : Act → World → Prop} {Q : Exit → Act → World → Prop} {E : Prop}
    (hgd : o.guard = none) (s x : Operand) (t : TypeId) (ho : o.op = .call { callee := .builtin .append, args := #[s, x], argTypes := #[t, t] })
    (base : Nat) (e : TypeId) (i : TypeInfo) (z : Value) (size bytes : Nat) (ht : P.underlying t = some (.slice e)) (hi : P.info? e = some i) (hz : i.zero = some z)
    (hsize : i.size = size) (hby : i.bytes = bytes) (hzs : z.cells.size = size) (hsz : 0 < size)
    (v : Value) (n : Nat) (xs : List Value) (hs : a.eval s = v) (hown : w.ownsRow base e size v n xs)
    (xv : Value) (m : Nat) (news : List Value) (hx : a.eval x = xv) (hnews : SrcAt w xv m size news) (h1 : ∀ u ∈ news, u.oneCell' = true)
    (h63 : n + m ≤ maxLen) (hbytes : (n + m) * bytes ≤ 140737488355328) (hbase : base ≤ w.heap.size)
    (h : ∀ v' w', w'.ownsRow base e size v' (n + m) (xs ++ news) → w.grownBy w' v.ownBlock → (∀ g, v'.ownBlock = some g → v.ownBlock = some g ∨ w.heap.size ≤ g) → K (a.put o.dst v') w') :
    if Region.wanted o (yielded ops a.tmps) = true then Oper.wp P o a w K Q else E := by
  have hw : Region.wanted o (yielded ops a.tmps) = true := by simp [Region.wanted, hgd]
  rw [if_pos hw]
  exact wp_append_src w s x t ho base e i z size bytes ht hi hz hsize hby hzs hsz v n xs hs hown xv m news hx hnews h1 h63 hbytes hbase h
theorem srcAt_ops {w : World} {v : Value} {l : List Op3} (h : IsOps w v l) : SrcAt w v l.length 3 (flat l) := by
  obtain ⟨ad, b, off, cap, rfl, ha, hn, hbB, hops⟩ := h
  cases ad with
  | none =>
    obtain ⟨h1, rfl⟩ := hn rfl
    have h2 : l = [] := List.length_eq_zero_iff.1 h1
    subst h2
    exact .inl ⟨rfl, rfl, rfl⟩
  | some a =>
    refine .inr ⟨a, cap, rfl, flat_length l, fun j u hj => ?_⟩
    have hlt : j < (flat l).length := (List.getElem?_eq_some_iff.1 hj).1
    rw [flat_length] at hlt
    have := ha (by omega)
    obtain rfl := Option.some.inj this
    rw [Addr.add_lit]
    exact hops.flat j u hj
/-- As an operation of a region in the text's order. -/
theorem wpList_append_src {P : Program} (w : World) {ops : Array Oper} {rest : List Oper} {o : Oper} {a : Act} {Q : Exit → Act → World → Prop} (hgd : o.guard = none) (s x : Operand) (t : TypeId)
    (ho : o.op = .call { callee := .builtin .append, args := #[s, x], argTypes := #[t, t] })
    (base : Nat) (e : TypeId) (i : TypeInfo) (z : Value) (size bytes : Nat) (ht : P.underlying t = some (.slice e)) (hi : P.info? e = some i) (hz : i.zero = some z)
    (hsize : i.size = size) (hby : i.bytes = bytes) (hzs : z.cells.size = size) (hsz : 0 < size)
    (v : Value) (n : Nat) (xs : List Value) (hs : a.eval s = v) (hown : w.ownsRow base e size v n xs)
    (xv : Value) (m : Nat) (news : List Value) (hx : a.eval x = xv) (hnews : SrcAt w xv m size news) (h1 : ∀ u ∈ news, u.oneCell' = true)
    (h63 : n + m ≤ maxLen) (hbytes : (n + m) * bytes ≤ 140737488355328) (hbase : base ≤ w.heap.size)
    (h : ∀ v' w', w'.ownsRow base e size v' (n + m) (xs ++ news) → w.grownBy w' v.ownBlock → (∀ g, v'.ownBlock = some g → v.ownBlock = some g ∨ w.heap.size ≤ g) → wpList P ops Q rest (a.put o.dst v') w') : wpList P ops Q (o :: rest) a w :=
  wpList_plain hgd fun _ hK => wp_append_src w s x t ho base e i z size bytes ht hi hz hsize hby hzs hsz v n xs hs hown xv m news hx hnews h1 h63 hbytes hbase fun v' w' h2 h3 h4 => hK _ _ (h v' w' h2 h3 h4)
theorem srcAt_own {w : World} {base e size n : Nat} {v : Value} {xs : List Value} (h : w.ownsRow base e size v n xs) : SrcAt w v n size xs := by
  have h' := h
  obtain ⟨hl, ⟨hv, hn⟩ | ⟨g, cap, cur, hv, _⟩⟩ := h'
  · refine .inl ⟨hv, hn, ?_⟩
    rw [hn] at hl
    exact List.eq_nil_of_length_eq_zero (by simpa using hl)
  · exact .inr ⟨⟨g, 0, none⟩, cap, hv, hl, fun j u hj => h.cells (g := g) (by rw [hv]; rfl) j u hj⟩
end Go.Proofs.Ytccjognnehoodag

namespace Go.Proofs.Ytccjognnehoodag
open Go.RowKit

/-- Behind this beginning there is such an order. -/
def SomeGood (l se : List Op3) (la ds b : List Int) : Prop := ∃ r, (b ++ r).Perm ds ∧ ByOk l se la (b ++ r)
/-- Yes or no, and yes if .. -/
def SomeAns (good : Prop) (e : Ending) : Prop := ∃ b, e = .returned (.bool b) ∧ (good → b = true)
def SomeOk (l se : List Op3) (la ds : List Int) (f : Nat) : Prop := ∀ (b : List Int) (v a1 a2 a3 vb : Value) (w : World), IsOps w v l → IsInts w a1 ds → IsOps w a2 se → IsInts w a3 la → IsInts w vb b → (∀ x ∈ b, x ∈ ds) → b.length + f = ds.length →
  Calls Try.prog 14 #[v, .agg #[a1, a2, a3], vb] w fun e w' => SomeAns (SomeGood l se la ds b) e ∧ Below w.heap.size w w'
structure SomeIs (l se : List Op3) (la ds : List Int) : Prop where
  ops : ∀ o ∈ l, isOpB o = true
  len : l.length ≤ 40
  lenS : se.length ≤ 240
  lenD : ds.length ≤ 6
  lenL : la.length = 6
  once : ds.Nodup
  reads : ∀ t ∈ ds, (se.filter (fun o : Op3 => o.1 == t)).map (fun o => o.2.1) = rdL (ofL l t)
theorem srcAt_ints {w : World} {v : Value} {l : List Int} (h : IsInts w v l) : SrcAt w v l.length 1 (l.map (Value.int .i64)) := by
  obtain ⟨ad, b, off, cap, rfl, ha, hn, hbB, hc⟩ := h
  cases ad with
  | none =>
    obtain ⟨h1, rfl⟩ := hn rfl
    have h2 : l = [] := List.length_eq_zero_iff.1 h1
    subst h2
    exact .inl ⟨rfl, rfl, rfl⟩
  | some a =>
    refine .inr ⟨a, cap, rfl, by simp, fun j u hj => ?_⟩
    have hlt : j < l.length := by have := (List.getElem?_eq_some_iff.1 hj).1; simpa using this
    have := ha (by omega)
    obtain rfl := Option.some.inj this
    rw [Addr.add_lit, hc j hlt, ← hj]
    simp [List.getD, List.getElem?_eq_getElem hlt]
theorem map_oneS (r : List Int) : ∀ u ∈ r.map (Value.int .i64), u.oneCell' = true := fun u hu => by
  obtain ⟨x, _, rfl⟩ := List.mem_map.1 hu
  rfl
theorem int_newS (w : World) (x : Int) (t : TypeId) : ∀ j u, ([Value.int .i64 x] : List Value)[j]? = some u → (w.alloc (.cells #[.int .i64 x] t)).cell? ((⟨w.heap.size, 0, none⟩ : Addr).add j) = some u := by
  intro j u hj
  rw [Addr.add_lit]
  rcases j with _ | j
  · simpa using hj
  · simp at hj
set_option maxHeartbeats 8000000 in
set_option maxRecDepth 100000 in
theorem some_zero {l se : List Op3} {la ds : List Int} (hS : SomeIs l se la ds) : SomeOk l se la ds 0 := by
  intro b v a1 a2 a3 vb w hI h1 h2 h3 hb hall hn
  have hb6 : b.length ≤ 6 := by have := hS.lenD; omega
  obtain ⟨x1, y1, z1, e1⟩ : ∃ ad n c, a1 = .slice ad n c := by obtain ⟨ad, _, _, cap, hv, _⟩ := h1; exact ⟨ad, _, cap, hv⟩
  have ey : y1 = ds.length := by obtain ⟨ad, _, _, cap, hv, _⟩ := h1; rw [e1] at hv; injection hv
  subst ey
  have HBY : Hid (∀ W, Below w.heap.size w W → Calls Try.prog 25 #[v, .agg #[a1, a2, a3], vb] W fun e w' => SomeAns (SomeGood l se la ds b) e ∧ Below W.heap.size W w') := fun W hW => by
    by_cases hg : SomeGood l se la ds b
    · obtain ⟨r, hp, hby⟩ := hg
      have hr : r = [] := by
        have := hp.length_eq
        rw [List.length_append] at this
        exact List.length_eq_zero_iff.1 (by omega)
      subst hr
      rw [List.append_nil] at hby
      exact (by_any l v a1 a2 a3 vb se la b W (hI.below hW (Nat.le_refl _)) ⟨_, _, _, e1⟩ (h2.below hW (Nat.le_refl _)) (h3.below hW (Nat.le_refl _)) (hb.below hW (Nat.le_refl _)) hS.ops hS.len hS.lenS hb6 hby).mono fun e w' ⟨he, hb⟩ => ⟨⟨true, he, fun _ => rfl⟩, hb⟩
    · exact (by_bool l v a1 a2 a3 vb se la b W (hI.below hW (Nat.le_refl _)) ⟨_, _, _, e1⟩ (h2.below hW (Nat.le_refl _)) (h3.below hW (Nat.le_refl _)) (hb.below hW (Nat.le_refl _)) hS.ops hS.len hS.lenS hb6 hS.lenL (fun t ht => hS.reads t (hall t ht))).mono fun e w' ⟨⟨z, he⟩, hb⟩ => ⟨⟨z, he, fun h => absurd h hg⟩, hb⟩
  obtain ⟨x2, y2, z2, rfl⟩ : ∃ ad n c, a2 = .slice ad n c := by obtain ⟨ad, _, _, cap, hv, _⟩ := h2; exact ⟨ad, _, cap, hv⟩
  obtain ⟨x3, y3, z3, rfl⟩ : ∃ ad n c, a3 = .slice ad n c := by obtain ⟨ad, _, _, cap, hv, _⟩ := h3; exact ⟨ad, _, cap, hv⟩
  obtain ⟨x4, b4, o4, z4, rfl, -⟩ := hb
  obtain ⟨x0, b0, o0, z0, rfl, -⟩ := hI
  subst e1
  obtain ⟨W0, hW0⟩ : ∃ W, W = w.alloc (.cells #[.slice x1 ds.length z1, .slice x2 y2 z2, .slice x3 y3 z3] 28) := ⟨_, rfl⟩
  have hb0 : Below w.heap.size w W0 := by rw [hW0]; exact (Below.refl _ w).alloc (Nat.le_refl _) _
  have HB0 := hid_s hb0
  have HC := hid_s (HBY.out W0 hb0)
  obtain ⟨n, hnn⟩ : ∃ n, ds.length = n := ⟨_, rfl⟩
  have hbn : b.length = n := by omega
  obtain ⟨good, hgd⟩ : ∃ g, SomeGood l se la ds b = g := ⟨_, rfl⟩
  have q0 : W0.cell? ⟨w.heap.size, 0, none⟩ = some (.slice x1 n z1) := by rw [hW0, hnn]; simp
  have q1 : W0.cell? ⟨w.heap.size, 1, none⟩ = some (.slice x2 y2 z2) := by rw [hW0]; simp
  have q2 : W0.cell? ⟨w.heap.size, 2, none⟩ = some (.slice x3 y3 z3) := by rw [hW0]; simp
  rw [hgd] at HC ⊢
  rw [hnn, hbn] at HC ⊢
  rw [hnn] at hW0
  clear hS hall hn hb6 HBY hb0 h1 h2 h3 hnn hbn hgd
  go_enter Try.func14, Try.ntmps14
  go_upto_region 1 with (fail)
  rw [← hW0]
  clear hW0
  go_wp2_with fail
  refine HC.out.mono ?_
  rintro e w2 ⟨⟨z, rfl, hz⟩, hb2⟩
  have HZ := hid_s hz
  have HB2 : Hid (Below w.heap.size w w2) := HB0.out.trans (hb2.mono HB0.out.size)
  clear hz hb2
  go_wp2_with fail
  go_ret
  exact ⟨⟨z, rfl, HZ.out⟩, HB2.out⟩
set_option maxHeartbeats 16000000 in
set_option maxRecDepth 100000 in
theorem some_succ {l se : List Op3} {la ds : List Int} (hS : SomeIs l se la ds) (f : Nat) (ih : SomeOk l se la ds f) : SomeOk l se la ds (f + 1) := by
  intro b v a1 a2 a3 vb w hI h1 h2 h3 hb hall hn
  have HIN : Hid (∀ W, Below w.heap.size w W → IsOps W v l ∧ IsInts W a1 ds ∧ IsOps W a2 se ∧ IsInts W a3 la ∧ IsInts W vb b) := fun W hW => ⟨hI.below hW (Nat.le_refl _), h1.below hW (Nat.le_refl _), h2.below hW (Nat.le_refl _), h3.below hW (Nat.le_refl _), hb.below hW (Nat.le_refl _)⟩
  obtain ⟨x1, b1, o1, z1, hv1, ha1, -, hbB1, hc1⟩ := h1
  have HE : Hid (∀ W, Below w.heap.size w W → ∀ k, k < ds.length → x1 = some ⟨b1, o1, none⟩ ∧ b1 < W.heap.size ∧ W.cell? ⟨b1, o1 + k, none⟩ = some (.int .i64 (ds.getD k 0))) := fun W hW k hk => by
    have hb : b1 < w.heap.size := by
      rcases hbB1 with h | h
      · exact h
      · subst h; simp at hk
    exact ⟨ha1 (by omega), Nat.lt_of_lt_of_le hb hW.size, (hW.cell (p := ⟨b1, o1 + k, none⟩) hb).trans (hc1 k hk)⟩
  subst hv1
  obtain ⟨x2, y2, z2, rfl⟩ : ∃ ad n c, a2 = .slice ad n c := by obtain ⟨ad, _, _, cap, hv, _⟩ := h2; exact ⟨ad, _, cap, hv⟩
  obtain ⟨x3, y3, z3, rfl⟩ : ∃ ad n c, a3 = .slice ad n c := by obtain ⟨ad, _, _, cap, hv, _⟩ := h3; exact ⟨ad, _, cap, hv⟩
  obtain ⟨x4, b4, o4, z4, hv4, -⟩ := hb
  subst hv4
  obtain ⟨x0, b0, o0, z0, hv0, -⟩ := hI
  subst hv0
  obtain ⟨i0, hi, hz0, hs0, hy0⟩ := info_parts infoInt
  have HT : Hid (Try.prog.info? 3 = some i0 ∧ i0.zero = some (.int .i64 0) ∧ i0.size = 1 ∧ i0.bytes = 8) := ⟨hi, hz0, hs0, hy0⟩
  have HS := hid_s hS
  have IH := hid_s ih
  have HAL := hid_s hall
  have HGE : Hid (SomeGood l se la ds b → ∃ x ∈ ds, x ∉ b ∧ SomeGood l se la ds (b ++ [x])) := fun ⟨r, hp, hby⟩ => by
    cases r with
    | nil =>
      have := hp.length_eq
      rw [List.append_nil] at this
      omega
    | cons x r =>
      have hx : x ∈ ds := hp.mem_iff.1 (List.mem_append_right _ List.mem_cons_self)
      have hnd : (b ++ x :: r).Nodup := hp.nodup_iff.2 hS.once
      have hxb : x ∉ b := fun h => (List.nodup_append.1 hnd).2.2 x h x List.mem_cons_self rfl
      exact ⟨x, hx, hxb, r, by rw [List.append_assoc]; exact hp, by rw [List.append_assoc]; exact hby⟩
  obtain ⟨W0, hW0⟩ : ∃ W, W = w.alloc (.cells #[.slice x1 ds.length z1, .slice x2 y2 z2, .slice x3 y3 z3] 28) := ⟨_, rfl⟩
  have hb0 : Below w.heap.size w W0 := by rw [hW0]; exact (Below.refl _ w).alloc (Nat.le_refl _) _
  have HB0 := hid_s hb0
  obtain ⟨n, hnn⟩ : ∃ n, ds.length = n := ⟨_, rfl⟩
  have hn6 : n ≤ 6 := by rw [← hnn]; exact hS.lenD
  obtain ⟨m, hbm⟩ : ∃ m, b.length = m := ⟨_, rfl⟩
  have hmn : m < n := by omega
  have hmn' : ¬ (n : Int) ≤ (m : Int) := by omega
  have HLN : Hid (ds.length = n ∧ b.length = m) := ⟨hnn, hbm⟩
  have HLF : Hid (m + (f + 1) = n) := by show _ = _; omega
  have HQ : Hid (∀ W, Below W0.heap.size W0 W → W.cell? ⟨w.heap.size, 0, none⟩ = some (.slice x1 n z1) ∧ W.cell? ⟨w.heap.size, 1, none⟩ = some (.slice x2 y2 z2) ∧ W.cell? ⟨w.heap.size, 2, none⟩ = some (.slice x3 y3 z3)) := fun W hW => by
    refine ⟨(hW.cell (p := ⟨w.heap.size, 0, none⟩) (by rw [hW0]; simp)).trans ?_, (hW.cell (p := ⟨w.heap.size, 1, none⟩) (by rw [hW0]; simp)).trans ?_, (hW.cell (p := ⟨w.heap.size, 2, none⟩) (by rw [hW0]; simp)).trans ?_⟩
    · rw [hW0, hnn]; simp
    · rw [hW0]; simp
    · rw [hW0]; simp
  rw [hnn, hbm] at HIN
  rw [hnn] at HE hW0
  rw [hnn, hbm]
  obtain ⟨P, hP⟩ : ∃ P, P = w.heap.size := ⟨_, rfl⟩
  rw [← hP] at HQ
  clear hS ih hall hn ha1 hbB1 hc1 h2 h3 hi hz0 hs0 hy0 hb0 hnn hbm
  obtain ⟨q0, q1, q2⟩ := HQ.out W0 (Below.refl _ _)
  go_enter Try.func14, Try.ntmps14
  go_upto_region 1 with (fail)
  rw [← hW0, ← hP]
  clear hW0 hP
  go_wp2_with fail
  go_loopw [7] (fun v7 wr => ∃ k : Nat, k ≤ n ∧ v7 = .int .i64 k ∧ Below W0.heap.size W0 wr ∧ (∀ j, j < k → ds.getD j 0 ∉ b → ¬ SomeGood l se la ds (b ++ [ds.getD j 0]))) (fun v7 _ => n - (intOf v7).toNat)
  case atStart => exact ⟨0, Nat.zero_le _, rfl, Below.refl _ _, fun j hj => absurd hj (by omega)⟩
  case round =>
    clear q0 q1 q2
    obtain ⟨k, hk, rfl, hbel, hno⟩ := hrel
    have HNO := hid_s hno
    have HBE := hid_s hbel
    have HBW : Hid (Below w.heap.size w wr) := HB0.out.trans (hbel.mono HB0.out.size)
    obtain ⟨q0, q1, q2⟩ := HQ.out wr hbel
    clear hno hbel
    by_cases hlt : k < n
    · have hlt' : (k : Int) < (n : Int) := by omega
      have hk0 : (0 : Int) ≤ (k : Int) := by omega
      have hkn : ¬ (k : Int) < 0 := by omega
      obtain ⟨rfl, hbw, c0⟩ := HE.out wr HBW.out k hlt
      obtain ⟨t, ht⟩ : ∃ t, ds.getD k 0 = t := ⟨_, rfl⟩
      rw [ht] at c0
      have HTT : Hid (ds.getD k 0 = t ∧ t ∈ ds) := ⟨ht, by rw [← ht]; have := HLN.out.1; simp [List.getD, List.getElem?_eq_getElem (show k < ds.length by omega)]⟩
      have HII := hid_s (in_any b (.slice x4 m z4) t wr (HIN.out wr HBW.out).2.2.2.2 (by have := HLN.out.2; omega))
      clear ht
      cases hin : inB b t with
      | true =>
        have HIB : Hid (t ∈ b) := inB_iff.1 hin
        rw [hin] at HII
        clear hin
        go_wp2_with fail
        refine HII.out.mono ?_
        rintro e w2 ⟨rfl, hw2⟩
        rw [hw2]
        clear hw2
        go_wp2_with fail
        go_roundw
        case rel =>
          refine ⟨k + 1, by omega, by go_num, HBE.out, fun j h1 h2 => ?_⟩
          rcases Nat.lt_or_ge j k with h | h
          · exact HNO.out j h h2
          · rw [show j = k by omega, HTT.out.1] at h2; exact absurd HIB.out h2
        case measure => simp [intOf]; omega
      | false =>
        rw [hin] at HII
        clear hin
        have HSR : Hid (SrcAt wr (.slice x4 m z4) m 1 (b.map (Value.int .i64))) := by show SrcAt _ _ _ _ _; have := srcAt_ints (HIN.out wr HBW.out).2.2.2.2; rw [HLN.out.2] at this; exact this
        have hsz := HBE.out.size
        go_wp2_with fail
        refine HII.out.mono ?_
        rintro e w2 ⟨rfl, hw2⟩
        rw [hw2]
        clear hw2
        go_upto_region 10 with (at_builtin; refine wpList_append_src _ rfl (.tmp 36) (.tmp 37) 25 rfl wr.heap.size 3 i0 (.int .i64 0) 1 8 Try.underlying25 HT.out.1 HT.out.2.1 HT.out.2.2.1 HT.out.2.2.2 rfl (by decide) (.slice none 0 0) 0 [] rfl (World.ownsRow_nil _ _ _ _) (.slice x4 m z4) m (b.map (Value.int .i64)) rfl HSR.out (map_oneS b) (by unfold maxLen; omega) (by omega) (Nat.le_refl _) ?_; intro v2 w2 hown2 hgr2 hap2)
        have HB2 : Hid (Below wr.heap.size wr w2) := (Below.refl _ wr).grown hgr2 (Nat.le_refl _) (fun q hq => by cases hq)
        have HOWN2 : Hid (w2.ownsRow wr.heap.size 3 1 v2 m (b.map (Value.int .i64))) := by
          show World.ownsRow _ _ _ _ _ _ _
          rw [Nat.zero_add, List.nil_append] at hown2
          exact hown2
        have d0 : w2.cell? ⟨b1, o1 + k, none⟩ = some (.int .i64 t) := (HB2.out.cell (p := ⟨b1, o1 + k, none⟩) (World.block_lt_of_cell? wr _ c0)).trans c0
        have HBE2 : Hid (Below W0.heap.size W0 w2) := HBE.out.trans (HB2.out.mono HBE.out.size)
        obtain ⟨r0, r1, r2⟩ := HQ.out w2 HBE2.out
        have hs2 := HB2.out.size
        clear hown2 hgr2 hap2 q0 q1 q2 c0
        go_upto_region 11 with (at_builtin; refine wpList_append_own _ rfl (.tmp 39) (.tmp 45) 25 rfl wr.heap.size 3 i0 (.int .i64 0) 1 8 Try.underlying25 HT.out.1 HT.out.2.1 HT.out.2.2.1 HT.out.2.2.2 rfl (by decide) v2 m (b.map (Value.int .i64)) rfl (HOWN2.out.alloc _) ⟨w2.heap.size, 0, none⟩ 1 1 [.int .i64 t] rfl rfl (int_newS _ _ _) (by simp [Value.oneCell']) (by unfold maxLen; omega) (by omega) (by simp; omega) ?_; intro v3 w3 hown3 hgr3 hnil3)
        have HN3 : Hid (IsInts w3 v3 (b ++ [t])) := by
          show IsInts w3 v3 (b ++ [t])
          refine isInts_own (base := wr.heap.size) (e := 3) (l := b ++ [t]) (n := m + 1) ?_ (by rw [List.length_append, HLN.out.2]; rfl)
          rw [List.map_append]
          exact hown3
        have HB3 : Hid (Below wr.heap.size wr w3) := (HB2.out.alloc hs2 _).grown hgr3 (by simp; omega) (fun q hq => (HOWN2.out.lt q hq).1)
        have HBE3 : Hid (Below W0.heap.size W0 w3) := HBE.out.trans (HB3.out.mono HBE.out.size)
        have HBW3 : Hid (Below w.heap.size w w3) := HBW.out.trans (HB3.out.mono HBW.out.size)
        obtain ⟨p0, p1, p2⟩ := HQ.out w3 HBE3.out
        clear hown3 hgr3 hnil3 d0 r0 r1 r2
        obtain ⟨i1, i2, i3, i4, -⟩ := HIN.out w3 HBW3.out
        have HIH := hid_s (IH.out (b ++ [t]) _ _ _ _ v3 w3 i1 i2 i3 i4 HN3.out (fun y hy => (List.mem_append.1 hy).elim (HAL.out y) fun h => by rw [List.mem_singleton.1 h]; exact HTT.out.2) (by rw [List.length_append, HLN.out.1, HLN.out.2]; have := HLF.out; simp; omega))
        clear i1 i2 i3 i4
        go_wp2_with fail
        refine HIH.out.mono ?_
        rintro e w4 ⟨⟨z, rfl, hz⟩, hb4⟩
        have HZ := hid_s hz
        have HB4 : Hid (Below w.heap.size w w4) := HBW3.out.trans (hb4.mono HBW3.out.size)
        have HBE4 : Hid (Below W0.heap.size W0 w4) := HBE3.out.trans (hb4.mono HBE3.out.size)
        clear hb4 hz p0 p1 p2
        cases z with
        | true =>
          go_wp2_with fail
          go_ret
          exact ⟨⟨true, rfl, fun _ => rfl⟩, HB4.out⟩
        | false =>
          go_wp2_with fail
          go_roundw
          case rel =>
            refine ⟨k + 1, by omega, by go_num, HBE4.out, fun j h1 h2 => ?_⟩
            rcases Nat.lt_or_ge j k with h | h
            · exact HNO.out j h h2
            · rw [show j = k by omega, HTT.out.1]; exact fun hg => by cases HZ.out hg
          case measure => simp [intOf]; omega
    · have hlt' : ¬ (k : Int) < (n : Int) := by omega
      have HNG : Hid (¬ SomeGood l se la ds b) := fun hg => by
        obtain ⟨x, hx, hxb, hgx⟩ := HGE.out hg
        obtain ⟨j, hj, e⟩ := List.mem_iff_getElem.1 hx
        have e2 : ds.getD j 0 = x := by simp [List.getD, List.getElem?_eq_getElem hj, e]
        exact HNO.out j (by have := HLN.out.1; omega) (by rw [e2]; exact hxb) (by rw [e2]; exact hgx)
      go_wp2_with fail
      go_ret
      exact ⟨⟨false, rfl, fun h => absurd h HNG.out⟩, HBW.out⟩
theorem some_any {l se : List Op3} {la ds : List Int} (hS : SomeIs l se la ds) (f : Nat) : SomeOk l se la ds f := by
  induction f with
  | zero => exact some_zero hS
  | succ f ih => exact some_succ hS f ih
end Go.Proofs.Ytccjognnehoodag
