/-
  PROVED HERE: plain facts, with no word of the program: chapter 12's rules, as package snap has them over package course, answer as that kind of run has it; which two ran at once, told of those that are done, in order, is chapter 12's Together.
  Conditions: none.
  PROVED HERE: package snap's two rules, as package course calls them: what a Read sees, and whether one that asks to commit is aborted; its Run keeps what it is asked (RunsC). Old memory stays as it was.
  Conditions: none for Run; for the rules: the deal has begun, the lists are short.
-/
import Derived.Test.YtccjognnehoodafDoorMgbf
import Derived.Test.YtccjognnehoodafDoorMgaz
import Derived.Test.YtccjognnehoodafDoorMgbc
import Derived.Test.YtccjognnehoodafDoorMgbn
import Derived.Test.YtccjognnehoodafDoorMgbm
import Derived.Laws.EntriesVeiled
namespace Go.Proofs.YtccjognnehoodafDoor

def seesS (q : Crs) (t item : Int) : Int := lastQ q.wrote (q.done.take ((q.began t).getD 0)) item
def fallS (q : Crs) (t : Int) : Bool := (q.done.drop ((q.began t).getD 0)).any fun o => (q.wrote t).any fun i => inB (q.wrote o) i
theorem who_front {of : Int → Dl} (a : List Int) {item time below : Int} (b : List Int) (h : ∀ t ∈ b, time ≤ (of t).ended) : whoK (a ++ b) of item time below = whoK a of item time below := by
  unfold whoK
  rw [List.foldl_append]
  obtain ⟨f, hf⟩ : ∃ f, a.foldl (fun f t => if (!inB (of t).wrote item || decide (time ≤ (of t).ended)) = true then f else if below = 0 then t else if t < below ∧ f < t then t else f) 0 = f := ⟨_, rfl⟩
  rw [hf]
  clear hf
  induction b generalizing f with
  | nil => rfl
  | cons t r ih =>
    rw [List.foldl_cons, if_pos (by rw [decide_eq_true (h t List.mem_cons_self), Bool.or_true])]
    exact ih (fun u hu => h u (List.mem_cons_of_mem _ hu)) f
theorem rulesS : RulesK 2 okS seesS fallS := by
  intro l k s q t hK h h1 hnd _ _
  have hb : ((begQ q t).began t).isSome = true := by rw [h1.beg t]; show setF s.beg t true t = true; exact setF_same ..
  obtain ⟨n, hn⟩ := Option.isSome_iff_exists.1 hb
  obtain ⟨-, b, c⟩ := h1.cnt t n hn
  have hof : (stayStep s k t).of t = nowK s k t := by show setF s.of t _ t = _; exact setF_same ..
  have hoth : ∀ i ∈ s.done, (stayStep s k t).of i = s.of i := fun i hi => by show setF s.of t _ i = _; exact setF_other _ _ fun e => hnd (e ▸ hi)
  have htk : ∀ i ∈ s.done.take n, (s.of i).ended < (nowK s k t).began := fun i hi => by
    have := b i hi
    rw [hof, hoth i (mem_takeQ hi)] at this
    exact this
  have hdr : ∀ i ∈ s.done.drop n, (nowK s k t).began < (s.of i).ended := fun i hi => by
    have hi' : i ∈ s.done := List.mem_of_mem_drop hi
    have := c i hi fun e => hnd (e ▸ hi')
    rw [hof, hoth i hi'] at this
    exact this
  constructor
  · intro item
    unfold seesS seeK
    have e3 : whoK s.done s.of item (nowK s k t).began 0 = lastK s.of (s.done.take n) item := by
      conv => lhs; rw [← List.take_append_drop n s.done]
      rw [who_front _ _ (fun i hi => Int.le_of_lt (hdr i hi)), who_last htk]
    rw [if_neg (by decide), if_neg (by decide), hn, begQ_done, begQ_wrote, h.done, e3]
    have e2 : q.wrote = fun t => (s.of t).wrote := funext h.wrote
    unfold lastQ lastK
    rw [e2]
    rfl
  · unfold fallS okS hitK
    rw [Bool.not_not, hn, begQ_done, h.done, h1.wrote t, hof, begQ_wrote, Bool.eq_iff_iff]
    simp only [Option.getD_some, List.any_eq_true, Bool.and_eq_true, decide_eq_true_eq]
    constructor
    · rintro ⟨i, hi, x, hx, hw⟩
      rw [h.wrote i] at hw
      exact ⟨i, List.mem_of_mem_drop hi, x, inB_iff.1 hw, hdr i hi, by rw [if_pos (by decide)]; exact inB_iff.2 hx⟩
    · rintro ⟨i, hi, x, hx, hlt, hw⟩
      rw [if_pos (by decide)] at hw
      refine ⟨i, ?_, x, inB_iff.1 hw, by rw [h.wrote i]; exact inB_iff.2 hx⟩
      rcases List.mem_append.1 (by rw [List.take_append_drop]; exact hi : i ∈ s.done.take n ++ s.done.drop n) with hm | hm
      · have := htk i hm
        omega
      · exact hm
/-- Did two run at once, as the program tells it? -/
def isT (q : Crs) (a b : Int) : Bool := !inB (q.done.take ((q.began b).getD 0)) a && !inB (q.done.take ((q.began a).getD 0)) b
/-- Who is done was done when another one began just if it had ended by then. -/
theorem take_ended {s : Kst} {q : Crs} (h : CFit s q) {x y : Int} (hx : s.beg x = true) (hy : y ∈ s.done) (hxy : x ≠ y) : (!inB (q.done.take ((q.began x).getD 0)) y) = decide ((s.of x).began < (s.of y).ended) := by
  have hbx : (q.began x).isSome = true := by rw [h.beg x]; exact hx
  obtain ⟨n, hn⟩ := Option.isSome_iff_exists.1 hbx
  obtain ⟨-, c1, c2⟩ := h.cnt x n hn
  rw [hn, h.done, Bool.eq_iff_iff, decide_eq_true_eq, Bool.not_eq_true', ← Bool.not_eq_true, inB_iff]
  show y ∉ s.done.take n ↔ _
  constructor
  · intro hm
    rcases List.mem_append.1 (by rw [List.take_append_drop]; exact hy : y ∈ s.done.take n ++ s.done.drop n) with h1 | h1
    · exact absurd h1 hm
    · exact c2 y h1 fun e => hxy e.symm
  · intro hlt hm
    have := c1 y hm
    omega
theorem take_none {s : Kst} {q : Crs} (h : CFit s q) {x y : Int} (hy : y ∉ s.done) : (!inB (q.done.take ((q.began x).getD 0)) y) = true := by
  rw [Bool.not_eq_true', ← Bool.not_eq_true, inB_iff, h.done]
  exact fun hm => hy (List.mem_of_mem_take hm)
theorem isT_once {l : List Op3} {k : Nat} {s : Kst} {q : Crs} (h : CFit s q) (hK : KOk l k s) {a b : Int} (ha : a ∈ s.done) (hb : b ∈ s.done) (hab : a ≠ b) : isT q a b = onceK (s.of a) (s.of b) := by
  have ea := (hK.comm a ha).2.2.2.1
  have eb := (hK.comm b hb).2.2.2.1
  unfold isT onceK
  rw [take_ended h (hK.comm b hb).1 ha (fun e => hab e.symm), take_ended h (hK.comm a ha).1 hb hab, decide_eq_false (show ¬ (s.of b).ended < 0 by omega), decide_eq_false (show ¬ (s.of a).ended < 0 by omega), Bool.false_or, Bool.false_or, Bool.and_comm]
/-- Two of a list of which something is so. -/
def pairsG (is : Int → Int → Bool) : List Int → List Edge2
  | [] => []
  | x :: r => ((r.filter (is x)).map fun y => (x, y)) ++ pairsG is r
theorem mem_pairsG (is : Int → Int → Bool) : ∀ ds : List Int, ds.Pairwise (· < ·) → ∀ e, e ∈ pairsG is ds ↔ e.1 ∈ ds ∧ e.2 ∈ ds ∧ e.1 < e.2 ∧ is e.1 e.2 = true := by
  intro ds
  induction ds with
  | nil => intro _ e; simp [pairsG]
  | cons x r ih =>
    intro hp e
    obtain ⟨h1, h2⟩ := List.pairwise_cons.1 hp
    unfold pairsG
    rw [List.mem_append, ih h2 e, List.mem_map]
    constructor
    · rintro (⟨y, hy, rfl⟩ | ⟨g1, g2, g3, g4⟩)
      · obtain ⟨hy1, hy2⟩ := List.mem_filter.1 hy
        exact ⟨List.mem_cons_self, List.mem_cons_of_mem _ hy1, h1 y hy1, hy2⟩
      · exact ⟨List.mem_cons_of_mem _ g1, List.mem_cons_of_mem _ g2, g3, g4⟩
    · rintro ⟨g1, g2, g3, g4⟩
      rcases List.mem_cons.1 g1 with e1 | e1
      · rcases List.mem_cons.1 g2 with e2 | e2
        · omega
        · exact .inl ⟨e.2, List.mem_filter.2 ⟨e2, by rw [← e1]; exact g4⟩, by rw [← e1]⟩
      · rcases List.mem_cons.1 g2 with e2 | e2
        · have := h1 _ e1
          omega
        · exact .inr ⟨e1, e2, g3, g4⟩
theorem pairsG_rise (is : Int → Int → Bool) : ∀ ds : List Int, ds.Pairwise (· < ·) → Rise (pairsG is ds) := by
  intro ds
  induction ds with
  | nil => intro _; exact List.Pairwise.nil
  | cons x r ih =>
    intro hp
    obtain ⟨h1, h2⟩ := List.pairwise_cons.1 hp
    unfold pairsG Rise
    refine List.pairwise_append.2 ⟨?_, ih h2, fun a ha b hb => ?_⟩
    · rw [List.pairwise_map]
      refine (h2.sublist List.filter_sublist).imp fun {y z} hyz => ?_
      unfold ltB
      simp
      omega
    · obtain ⟨y, hy, rfl⟩ := List.mem_map.1 ha
      have := h1 _ ((mem_pairsG is r h2 b).1 hb).1
      unfold ltB
      simp
      omega
theorem sortI_rise {ds : List Int} (h : ds.Nodup) : (sortI ds).Pairwise (· < ·) :=
  ((sortI_sorted ds).and ((sortI_perm ds).nodup_iff.2 h)).imp fun {a b} hab => by omega
/-- What the program tells is chapter 12's Together. -/
theorem pairs_tog {is : Int → Int → Bool} {of : Int → Dl} {ds : List Int} (hn : ds.Nodup) (h6 : ∀ t ∈ ds, 1 ≤ t ∧ t ≤ 6) (his : ∀ a ∈ ds, ∀ b ∈ ds, a ≠ b → is a b = onceK (of a) (of b)) : pairsG is (sortI ds) = togL of ds := by
  have hm : ∀ x, x ∈ sortI ds ↔ x ∈ ds := fun x => (sortI_perm ds).mem_iff
  refine rise_eq _ _ (pairsG_rise is _ (sortI_rise hn)) (List.Pairwise.sublist List.filter_sublist allE_rise) fun e => ?_
  rw [mem_pairsG is _ (sortI_rise hn), hm, hm]
  unfold togL togB
  rw [List.mem_filter, Bool.and_eq_true, Bool.and_eq_true, Bool.and_eq_true, decide_eq_true_eq, inB_mem, inB_mem]
  constructor
  · rintro ⟨h1, h2, h3, h4⟩
    exact ⟨mem_allE (h6 _ h1).1 (h6 _ h1).2 (h6 _ h2).1 (h6 _ h2).2, ⟨h1, h2⟩, h3, by rw [← his _ h1 _ h2 (by omega)]; exact h4⟩
  · rintro ⟨_, ⟨h1, h2⟩, h3, h4⟩
    exact ⟨h1, h2, h3, by rw [his _ h1 _ h2 (by omega)]; exact h4⟩
end Go.Proofs.YtccjognnehoodafDoor

namespace Go.Proofs.YtccjognnehoodafDoor
open Go.RowKit

theorem seesS_c : SeesC 47 seesS := by
  intro w0 w R S F q c t item h hq h1 h6 hb
  obtain ⟨n, hn⟩ := Option.isSome_iff_exists.1 hb
  have HC := hid_q (lastBefore_crs h hq h1 h6 hn item)
  have e0 : seesS q t item = lastQ q.wrote (q.done.take n) item := by unfold seesS; rw [hn]; rfl
  rw [e0]
  clear h hq h1 h6 hb hn e0
  go_enter Tryd.func47, Tryd.ntmps47
  go_wp2_with (go_at_call 63; refine HC.out.mono ?_; rintro e w1 ⟨rfl, hb1⟩)
  go_ret
  exact ⟨rfl, hb1⟩
set_option maxHeartbeats 4000000 in
theorem over2_fn {w0 w : World} {R : Nat} {S F : Value} {q : Crs} {c : CLay} (h : CrsAt w0 w R S F q c) (hq : CrsOk 1000 q) (o i : Int) (ho1 : 1 ≤ o) (ho6 : o ≤ 6) (P1 P2 : Nat) (k1 : w.cell? ⟨P1, 0, none⟩ = some (.pointer (some ⟨R, 0, none⟩))) (k2 : w.cell? ⟨P2, 0, none⟩ = some (.int .i64 o)) :
    Calls Tryd.prog 66 (#[.int .i64 i] ++ #[.pointer (some ⟨P1, 0, none⟩), .pointer (some ⟨P2, 0, none⟩)]) w fun e w' => e = .returned (.bool (inB (q.wrote o) i)) ∧ Below w.heap.size w w' := by
  have HC := hid_q (wrote_crs h ho1 ho6 i (hq.lenW _))
  clear h hq
  go_enter Tryd.func66, Tryd.ntmps66
  go_wp2_with (go_at_call 41; refine HC.out.mono ?_; rintro e w1 ⟨rfl, hw1⟩; rw [hw1]; clear hw1)
  go_ret
  exact ⟨rfl, Below.refl _ w⟩
theorem call_over2 : RuleFn 66 := fun args W => by kernel_rfl
theorem call_over1 : RuleFn 65 := fun args W => by kernel_rfl
set_option maxHeartbeats 4000000 in
set_option maxRecDepth 100000 in
theorem over1_fn {w0 w : World} {R : Nat} {S F : Value} {q : Crs} {c : CLay} (h : CrsAt w0 w R S F q c) (hq : CrsOk 1000 q) (o : Int) (ho1 : 1 ≤ o) (ho6 : o ≤ 6) (wr : List Int) (v : Value) (hv : IsInts w v wr) (hwr : wr.length ≤ 1000) (P0 P1 : Nat) (k0 : w.cell? ⟨P0, 0, none⟩ = some v) (k1 : w.cell? ⟨P1, 0, none⟩ = some (.pointer (some ⟨R, 0, none⟩))) :
    Calls Tryd.prog 65 (#[.int .i64 o] ++ #[.pointer (some ⟨P0, 0, none⟩), .pointer (some ⟨P1, 0, none⟩)]) w fun e w' => e = .returned (.bool (wr.any fun i => inB (q.wrote o) i)) ∧ Below w.heap.size w w' := by
  have l0 := World.block_lt_of_cell? w _ k0
  have l1 := World.block_lt_of_cell? w _ k1
  simp only at l0 l1
  have HC : Hid (∀ W, Below w.heap.size w W → ∀ P3, W.cell? ⟨P3, 0, none⟩ = some (.int .i64 o) → Calls Tryd.prog 36 #[v, .func (.func 66) #[] #[.pointer (some ⟨P1, 0, none⟩), .pointer (some ⟨P3, 0, none⟩)]] W fun r w' => r = .returned (.bool (wr.any fun i => inB (q.wrote o) i)) ∧ Below W.heap.size W w') := fun W hW P3 k3 => by
    refine contains_intC wr v _ _ _ W call_over2 (hv.below hW (Nat.le_refl _)) (by omega) fun W2 hW2 e _ => ?_
    have hW3 : Below w.heap.size w W2 := hW.trans (hW2.mono hW.size)
    exact over2_fn (h.below hW3) hq o e ho1 ho6 P1 P3 ((hW3.cell (p := ⟨P1, 0, none⟩) l1).trans k1) ((hW2.cell (p := ⟨P3, 0, none⟩) (World.block_lt_of_cell? W _ k3)).trans k3)
  obtain ⟨ad, b, off, cap, rfl, -⟩ := hv
  obtain ⟨n, hn⟩ : ∃ n, wr.length = n := ⟨_, rfl⟩
  rw [hn] at k0 HC
  clear h hq hwr hn
  go_enter Tryd.func65, Tryd.ntmps65
  go_wp2_with (go_at_call 36; refine (HC.out _ ((Below.refl _ w).alloc (Nat.le_refl _) _) w.heap.size (by simp)).mono ?_; rintro e w1 ⟨rfl, hb1⟩)
  go_ret
  exact ⟨rfl, ((Below.refl _ w).alloc (Nat.le_refl _) _).trans (hb1.mono (by simp))⟩
set_option maxHeartbeats 4000000 in
set_option maxRecDepth 100000 in
theorem fallS_c : FallC 48 fallS := by
  intro w0 w R S F q c t h hq h1 h6 hb
  obtain ⟨n, hn⟩ := Option.isSome_iff_exists.1 hb
  have e0 : fallS q t = (q.done.drop n).any fun o => (q.wrote t).any fun i => inB (q.wrote o) i := by unfold fallS; rw [hn]; rfl
  rw [e0]
  have HR : Hid (∀ W, Below w.heap.size w W → Calls Tryd.prog 64 #[.pointer (some ⟨R, 0, none⟩), .int .i64 t] W fun e w' => ∃ v', e = .returned v' ∧ w'.ownsRow W.heap.size 3 1 v' (q.wrote t).length ((q.wrote t).map (Value.int .i64)) ∧ Below W.heap.size W w') := fun W hW => written_crs (h.below hW) h1 h6 (hq.lenW t)
  have HS : Hid (∀ W, Below w.heap.size w W → Calls Tryd.prog 37 #[.pointer (some ⟨R, 0, none⟩), .int .i64 t] W fun e w' => ∃ v', e = .returned v' ∧ IsInts w' v' (q.done.drop n) ∧ Below W.heap.size W w') := fun W hW => since_crs (h.below hW) h1 h6 hn (hq.cnt t n hn) hq.lenD
  have HC : Hid (∀ W, Below w.heap.size w W → ∀ u v P0 P1, IsInts W u (q.done.drop n) → IsInts W v (q.wrote t) → W.cell? ⟨P0, 0, none⟩ = some v → W.cell? ⟨P1, 0, none⟩ = some (.pointer (some ⟨R, 0, none⟩)) → Calls Tryd.prog 36 #[u, .func (.func 65) #[] #[.pointer (some ⟨P0, 0, none⟩), .pointer (some ⟨P1, 0, none⟩)]] W fun r w' => r = .returned (.bool ((q.done.drop n).any fun o => (q.wrote t).any fun i => inB (q.wrote o) i)) ∧ Below W.heap.size W w') := fun W hW u v P0 P1 hu hv k0 k1 => by
    refine contains_intC (q.done.drop n) u _ _ _ W call_over1 hu (by have := hq.lenD; rw [List.length_drop]; omega) fun W2 hW2 e he => ?_
    have h6 := hq.six e (List.mem_of_mem_drop he)
    exact over1_fn (h.below (hW.trans (hW2.mono hW.size))) hq e h6.1 h6.2 (q.wrote t) v (hv.below hW2 (Nat.le_refl _)) (hq.lenW t) P0 P1 ((hW2.cell (p := ⟨P0, 0, none⟩) (World.block_lt_of_cell? W _ k0)).trans k0) ((hW2.cell (p := ⟨P1, 0, none⟩) (World.block_lt_of_cell? W _ k1)).trans k1)
  obtain ⟨N, hN⟩ : ∃ N, (q.wrote t).length = N := ⟨_, rfl⟩
  rw [hN] at HR
  have HN := hid_q hN
  clear h hq h1 h6 hb hn e0 hN
  go_enter Tryd.func48, Tryd.ntmps48
  obtain ⟨P, hP⟩ : ∃ P, w.heap.size = P := ⟨_, rfl⟩
  go_wp2_with fail
  obtain ⟨W, hW⟩ : ∃ W, W = w.alloc (.cells #[.pointer (some ⟨R, 0, none⟩)] 67) := ⟨_, rfl⟩
  rw [← hW]
  have hbW : Below w.heap.size w W := by rw [hW]; exact (Below.refl _ w).alloc (Nat.le_refl _) _
  have k2 : W.cell? ⟨P, 0, none⟩ = some (.pointer (some ⟨R, 0, none⟩)) := by rw [hW, ← hP]; simp
  clear hW
  refine (HR.out W hbW).mono ?_
  rintro e w1 ⟨v1, rfl, ho1, hb1⟩
  obtain ⟨ad1, cp1, rfl, -⟩ := own_slice3 ho1
  have HB1 : Hid (Below w.heap.size w w1) := hbW.trans (hb1.mono hbW.size)
  have m2 := (hb1.cell (p := ⟨P, 0, none⟩) (World.block_lt_of_cell? W _ k2)).trans k2
  have HO := hid_q (isInts_own ho1 HN.out)
  clear ho1 hb1 k2 hbW
  have q2 := World.block_lt_of_cell? w1 _ m2
  simp only at q2
  go_upto_region 2 with (fail)
  obtain ⟨W3, hW3⟩ : ∃ W, W = w1.alloc (.cells #[.slice ad1 N cp1] 23) := ⟨_, rfl⟩
  rw [← hW3]
  have hb3 : Below w1.heap.size w1 W3 := by rw [hW3]; exact (Below.refl _ w1).alloc (Nat.le_refl _) _
  have n0 : W3.cell? ⟨w1.heap.size, 0, none⟩ = some (.slice ad1 N cp1) := by rw [hW3]; simp
  have n2 := (hb3.cell (p := ⟨P, 0, none⟩) q2).trans m2
  have HB3 : Hid (Below w.heap.size w W3) := HB1.out.trans (hb3.mono HB1.out.size)
  have HO3 := hid_q (HO.out.below hb3 (Nat.le_refl _))
  clear hW3 hb3 m2 q2
  obtain ⟨P5, hP5⟩ : ∃ P, P = w1.heap.size := ⟨_, rfl⟩
  rw [← hP5] at n0 ⊢
  clear hP5 hP
  go_wp2_with fail
  refine (HS.out W3 HB3.out).mono ?_
  rintro e w4 ⟨v4, rfl, hi4, hb4⟩
  have r0 := (hb4.cell (p := ⟨P5, 0, none⟩) (World.block_lt_of_cell? W3 _ n0)).trans n0
  have r2 := (hb4.cell (p := ⟨P, 0, none⟩) (World.block_lt_of_cell? W3 _ n2)).trans n2
  have HB4 : Hid (Below w.heap.size w w4) := HB3.out.trans (hb4.mono HB3.out.size)
  have HCC := hid_q (HC.out w4 HB4.out v4 (.slice ad1 N cp1) P5 P hi4 (HO3.out.below hb4 (Nat.le_refl _)) r0 r2)
  clear hi4 hb4
  go_wp2_with fail
  refine HCC.out.mono ?_
  rintro e w5 ⟨rfl, hb5⟩
  go_wp2_with fail
  go_ret
  exact ⟨rfl, HB4.out.trans (hb5.mono HB4.out.size)⟩
theorem call_asItWas : RuleFn 47 := fun _ _ => by kernel_rfl
theorem call_over : RuleFn 48 := fun _ _ => by kernel_rfl
theorem rules_infoQ : (Tryd.prog.info? 51).map (fun i => i.size) = some 2 := by kernel_rfl
set_option maxHeartbeats 2000000 in
theorem rules_fn (w : World) : Calls Tryd.prog 27 #[] w fun e w' => e = .returned (.agg #[.func (.func 47) #[] #[], .func (.func 48) #[] #[]]) ∧ Below w.heap.size w w' := by
  go_enter Tryd.func27, Tryd.ntmps27
  go_wp2_with fail
  exact bodyPost_ret (v := .agg #[.func (.func 47) #[] #[], .func (.func 48) #[] #[]]) (results_cell_row Tryd.results27 _ _ w.heap.size 51 #[.func (.func 47) #[] #[], .func (.func 48) #[] #[]] (0, 0) _ rfl (World.alloc_heap_new w _) Tryd.underlying51 rfl rules_infoQ) rfl ⟨rfl, (Below.refl _ w).alloc (Nat.le_refl _) _⟩
theorem outS (l : List Op3) : outU 2 okS false l = ((if (chk l).2 = 0 then (runQ seesS fallS l l.length).done else [], if (chk l).2 = 0 then (runQ seesS fallS l l.length).done.flatMap (runQ seesS fallS l l.length).read else [], if (chk l).2 = 0 then lastsQ (runQ seesS fallS l l.length) 6 else []), (chk l).2) := by
  by_cases hc : (chk l).2 = 0
  · rw [if_pos hc, if_pos hc, if_pos hc, crs_out rulesS hc, hc]; rfl
  · rw [if_neg hc, if_neg hc, if_neg hc, outU_bad hc]
set_option maxHeartbeats 8000000 in
set_option maxRecDepth 100000 in
theorem snapC : RunsC 14 2 okS false := by
  intro l v w hI
  rw [outS]
  have HRC : Hid (∀ W, Below w.heap.size w W → _) := fun W hW => run_crs call_asItWas call_over seesS_c fallS_c.k l v W (fun _ _ => trivial) (hI.below hW (Nat.le_refl _))
  obtain ⟨A, hA⟩ : ∃ A, (if (chk l).2 = 0 then (runQ seesS fallS l l.length).done else []) = A := ⟨_, rfl⟩
  obtain ⟨B, hB⟩ : ∃ B, (if (chk l).2 = 0 then (runQ seesS fallS l l.length).done.flatMap (runQ seesS fallS l l.length).read else []) = B := ⟨_, rfl⟩
  obtain ⟨C, hC⟩ : ∃ C, (if (chk l).2 = 0 then lastsQ (runQ seesS fallS l l.length) 6 else []) = C := ⟨_, rfl⟩
  obtain ⟨er, her⟩ : ∃ e, errV (chk l).2 = e := ⟨_, rfl⟩
  have HER : Hid (er = .nilIface ∨ ∃ n, er = .iface 75 (.int .i64 n)) := by
    show _ ∨ _
    rw [← her]
    unfold errV
    split
    · exact .inl rfl
    · exact .inr ⟨_, rfl⟩
  rw [hA, hB, hC, her] at HRC
  simp only
  rw [hA, hB, hC, her]
  obtain ⟨ad, b, off, cap, rfl, -⟩ := hI
  obtain ⟨W0, hW0⟩ : ∃ W, W = w.alloc (.cells #[.slice none 0 0, .slice none 0 0, .slice none 0 0] 26) := ⟨_, rfl⟩
  have hb0 : Below w.heap.size w W0 := by rw [hW0]; exact (Below.refl _ w).alloc (Nat.le_refl _) _
  have HB0 := hid_q hb0
  have kz : W0.heap[w.heap.size]? = some (.cells #[.slice none 0 0, .slice none 0 0, .slice none 0 0] 26 (0, 0)) := by rw [hW0]; exact World.alloc_heap_new w _
  have HKZ := hid_q kz
  have hsz : W0.heap.size = w.heap.size + 1 := by rw [hW0]; simp
  have HSZ := hid_q hsz
  have HRL := hid_q (rules_fn W0)
  clear hA hB hC her hb0 kz hsz
  go_enter Tryd.func14, Tryd.ntmps14
  go_upto_region 1 with (fail)
  rw [← hW0]
  obtain ⟨Z, hZ⟩ : ∃ Z, Z = w.heap.size := ⟨_, rfl⟩
  rw [← hZ] at HKZ ⊢
  have HZZ : Hid (Z < W0.heap.size ∧ w.heap.size ≤ Z) := by have := HSZ.out; exact ⟨by omega, by omega⟩
  clear hW0 hZ
  go_wp2_with fail
  refine HRL.out.mono ?_
  rintro e w2 ⟨rfl, hb2⟩
  have HB2 := hid_q hb2
  have HCK := hid_q (HRC.out w2 (HB0.out.trans (hb2.mono HB0.out.size)))
  clear hb2
  go_wp2_with fail
  refine HCK.out.mono ?_
  rintro e w5 ⟨a1, a2, a3, rfl, hi1, hi2, hi3, hr, hb6⟩
  have hb5 : Below W0.heap.size W0 w5 := HB2.out.trans (hb6.mono HB2.out.size)
  have hz5 := (hb5.block Z HZZ.out.1).trans HKZ.out
  have HF5 := hid_q (fin5 hz5 HZZ.out.2 (HB0.out.trans (hb5.mono HB0.out.size)) (u1 := a1) (u2 := a2) (u3 := a3) hi1 hi2 hi3)
  have HRR := hid_q hr
  have z0 : w5.cell? ⟨Z, 0, none⟩ = some (.slice none 0 0) := by rw [cell_of_row w5 Z _ _ _ _ hz5]; rfl
  have z1 : w5.cell? ⟨Z, 1, none⟩ = some (.slice none 0 0) := by rw [cell_of_row w5 Z _ _ _ _ hz5]; rfl
  have z2 : w5.cell? ⟨Z, 2, none⟩ = some (.slice none 0 0) := by rw [cell_of_row w5 Z _ _ _ _ hz5]; rfl
  have y0 : w5.frozen? ⟨Z, 0, none⟩ = false := by simp [World.frozen?, hz5]
  have y1 : w5.frozen? ⟨Z, 1, none⟩ = false := by simp [World.frozen?, hz5]
  have y2 : w5.frozen? ⟨Z, 2, none⟩ = false := by simp [World.frozen?, hz5]
  obtain ⟨d1, n1, p1, x1⟩ : ∃ d n p, a1 = .slice d n p := by obtain ⟨a, _, _, c, h, _⟩ := hi1; exact ⟨a, _, c, h⟩
  obtain ⟨d2, n2, p2, x2⟩ : ∃ d n p, a2 = .slice d n p := by obtain ⟨a, _, _, c, h, _⟩ := hi2; exact ⟨a, _, c, h⟩
  obtain ⟨d3, n3, p3, x3⟩ : ∃ d n p, a3 = .slice d n p := by obtain ⟨a, _, _, c, h, _⟩ := hi3; exact ⟨a, _, c, h⟩
  subst x1 x2 x3
  clear hi1 hi2 hi3 hr hb5 hb6 hz5
  rcases HER.out with rfl | ⟨ne, rfl⟩
  · go_wp2_with fail
    exact bodyPost_ret (v := .tuple #[.agg #[.slice d1 n1 p1, .slice d2 n2 p2, .slice d3 n3 p3], .nilIface]) (results_twoQ Tryd.results14 _ _ Z 26 #[.slice d1 n1 p1, .slice d2 n2 p2, .slice d3 n3 p3] (0, 0) _ .nilIface rfl rfl HF5.out.1 Tryd.underlying26 rfl outcome_infoQ) rfl ⟨_, _, _, rfl, HF5.out.2.1, HF5.out.2.2.1, HF5.out.2.2.2.1, HRR.out, HF5.out.2.2.2.2⟩
  · go_wp2_with fail
    exact bodyPost_ret (v := .tuple #[.agg #[.slice d1 n1 p1, .slice d2 n2 p2, .slice d3 n3 p3], .iface 75 (.int .i64 ne)]) (results_twoQ Tryd.results14 _ _ Z 26 #[.slice d1 n1 p1, .slice d2 n2 p2, .slice d3 n3 p3] (0, 0) _ (.iface 75 (.int .i64 ne)) rfl rfl HF5.out.1 Tryd.underlying26 rfl outcome_infoQ) rfl ⟨_, _, _, rfl, HF5.out.2.1, HF5.out.2.2.1, HF5.out.2.2.2.1, HRR.out, HF5.out.2.2.2.2⟩
end Go.Proofs.YtccjognnehoodafDoor
