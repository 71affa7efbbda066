/-
  PROVED HERE: laneref1.Done gives, of a right list, the ops of the deals that commit; laneref1.Of gives a deal's ops, of any list; old memory stays as it was.
  Conditions: none.
  PROVED HERE: nothing yet of packages valid, snap, danger, versions: what a Run of theirs is asked to answer (RunsC), for the laws that call it, and what the document's own answer is asked (RefC, RefOutC); how long that can be.
  Conditions: none.
-/
import Derived.Test.YtccjognnehoodafMgas
import Derived.Test.YtccjognnehoodafMgae
import Derived.Test.YtccjognnehoodafMgap
import Derived.Test.YtccjognnehoodafMgaq
import Derived.Test.YtccjognnehoodafMgar
import Derived.Test.YtccjognnehoodafMgac
import Derived.Test.YtccjognnehoodafMgad
namespace Go.Proofs.Ytccjognnehoodaf
open Go.RowKit

theorem filter_keep {q : Op3 → Bool} {l : List Op3} {k : Nat} {o : Op3} (h : l.take (k + 1) = l.take k ++ [o]) (hq : q o = true) : (l.take (k + 1)).filter q = (l.take k).filter q ++ [o] := by
  rw [h, List.filter_append]; simp [hq]
theorem filter_drop {q : Op3 → Bool} {l : List Op3} {k : Nat} {o : Op3} (h : l.take (k + 1) = l.take k ++ [o]) (hq : q o = false) : (l.take (k + 1)).filter q = (l.take k).filter q := by
  rw [h, List.filter_append]; simp [hq]
theorem end_v (l : List Op3) (v : Value) (t : Int) (w : World) (hI : IsOps w v l) (hlen : l.length ≤ 140737488351232) :
    Calls Try.prog 39 #[v, .int .i64 t, .int .i64 l.length] w fun e w' => e = .returned (.int .i64 (endOf l t)) ∧ w' = w := by
  obtain ⟨ad, b, off, cap, rfl, ha, _, hbB, hops⟩ := hI
  exact end_any l ad b off cap t w hlen ha hops
theorem endOf_comm (l : List Op3) (t : Nat) (h1 : ∀ o ∈ l, isOpB o = true) (h2 : Calm l) : (endOf l t == 3) = commIn l t := by
  induction l with
  | nil => rfl
  | cons a r ih =>
    obtain ⟨k1, k2⟩ := List.pairwise_cons.1 h2
    have ha := isOp_ends (h1 a (List.mem_cons_self ..))
    have ih' := ih (fun o ho => h1 o (List.mem_cons_of_mem _ ho)) k2
    have e : endOf (a :: r) t = if a.1 = (t : Int) ∧ 3 ≤ a.2.1 then a.2.1 else endOf r t := rfl
    have e2 : commIn (a :: r) t = ((a.1 == (t : Int) && a.2.1 == 3) || commIn r t) := by simp [commIn]
    rw [e, e2]
    by_cases hc : a.1 = (t : Int) ∧ 3 ≤ a.2.1
    · rw [if_pos hc]
      have hn : commIn r t = false := by
        simp only [commIn, List.any_eq_false]
        intro o ho hq
        simp at hq
        exact k1 o ho ⟨by rw [hc.1, hq.1], by rw [ha]; simp [hc.2]⟩
      rw [hn]; simp [hc.1]
    · rw [if_neg hc, ih']
      have : (a.1 == (t : Int) && a.2.1 == 3) = false := by
        by_cases h3 : a.1 = (t : Int)
        · have : ¬ a.2.1 = 3 := fun h4 => hc ⟨h3, by omega⟩
          simp [this]
        · simp [h3]
      rw [this]; simp

set_option maxHeartbeats 4000000 in
theorem refOf_own (l : List Op3) (v : Value) (tx : Int) (w : World) (hI : IsOps w v l) (hlen : l.length ≤ 140737488351) :
    Calls Try.prog 40 #[v, .int .i64 tx] w fun e w' => ∃ v', e = .returned v' ∧ w'.ownsRow w.heap.size 24 3 v' (l.filter (fun o : Op3 => o.1 == tx)).length (flat (l.filter (fun o : Op3 => o.1 == tx))) ∧ Below w.heap.size w w' := by
  obtain ⟨ad, b, off, cap, rfl, ha, hn, hbB, hops⟩ := hI
  have HI0 : Hid (IsOps w (.slice ad l.length cap) l) := ⟨ad, b, off, cap, rfl, ha, hn, hbB, hops⟩
  clear hn
  obtain ⟨i0, hi, hz0, hs0, hy0⟩ := info_parts infoOp
  have HI : Hid (Try.prog.info? 24 = some i0 ∧ i0.zero = some (.agg #[.int .i64 0, .int .i64 0, .int .i64 0]) ∧ i0.size = 3 ∧ i0.bytes = 24) := ⟨hi, hz0, hs0, hy0⟩
  clear hi hz0 hs0 hy0
  go_enter Try.func40, Try.ntmps40
  go_wp2
  go_loopw [5, 6] (fun x1 x2 wr => ∃ k : Nat, k ≤ l.length ∧ x2 = .int .i64 k ∧ wr.ownsRow w.heap.size 24 3 x1 ((l.take k).filter (fun o : Op3 => o.1 == tx)).length (flat ((l.take k).filter (fun o : Op3 => o.1 == tx))) ∧ Below w.heap.size w wr) (fun _ x2 _ => l.length - (intOf x2).toNat)
  case atStart => exact ⟨0, Nat.zero_le _, rfl, World.ownsRow_nil _ _ _ _, Below.refl _ _⟩
  case round =>
    obtain ⟨k, hk, rfl, hown, hbel⟩ := hrel
    have hsz := hbel.size
    by_cases hlt : k < l.length
    · obtain rfl := ha (by omega)
      have hb1 : b < w.heap.size := by
        rcases hbB with h | h
        · exact h
        · subst h; simp at hlt
      obtain ⟨c0, c1, c2⟩ := (hops.below hbel (.inl hb1)) k hlt
      obtain ⟨⟨t, a, i⟩, ho⟩ : ∃ o : Op3, l.getD k (0, 0, 0) = o := ⟨_, rfl⟩
      rw [ho] at c0 c1 c2
      have hmem : (t, a, i) ∈ l := by rw [← ho]; simp [List.getD, List.getElem?_eq_getElem hlt]
      have HT : Hid (l.take (k + 1) = l.take k ++ [(t, a, i)]) := by
        show l.take (k + 1) = l.take k ++ [(t, a, i)]
        rw [List.take_succ_eq_append_getElem hlt, ← ho]; simp [List.getD, List.getElem?_eq_getElem hlt]
      have hkl := take_len (fun o : Op3 => o.1 == tx) l k
      skip
      clear ho hops ha hbB hmem
      simp only at c0 c1 c2
      obtain ⟨n, hn⟩ : ∃ n, ((l.take k).filter (fun o : Op3 => o.1 == tx)).length = n := ⟨_, rfl⟩
      have HN : Hid (((l.take k).filter (fun o : Op3 => o.1 == tx)).length = n) := hn
      rw [hn] at hown hkl
      have HOWN : Hid (wr.ownsRow w.heap.size 24 3 u5 n (flat ((l.take k).filter (fun o : Op3 => o.1 == tx)))) := hown
      clear hn hown
      cases hq : (fun o : Op3 => o.1 == tx) (t, a, i) with
      | false =>
        have HQ : Hid ((fun o : Op3 => o.1 == tx) (t, a, i) = false) := hq
        have hq' : (t == tx) = false := hq
        clear hq
        go_wp2_with (fail)
        go_roundw
        case rel => exact ⟨k + 1, by omega, by go_num, by rw [filter_drop (q := (fun o : Op3 => o.1 == tx)) HT.out HQ.out, HN.out]; exact HOWN.out, hbel⟩
        case measure => simp [intOf]; omega
      | true =>
        have HQ : Hid ((fun o : Op3 => o.1 == tx) (t, a, i) = true) := hq
        have hq' : (t == tx) = true := hq
        clear hq
        go_wp2_with (first | (fail) | (at_builtin; refine wpList_append_own _ rfl (.tmp 20) (.tmp 25) 22 rfl w.heap.size 24 i0 (.agg #[.int .i64 0, .int .i64 0, .int .i64 0]) 3 24 Try.underlying22 HI.out.1 HI.out.2.1 HI.out.2.2.1 HI.out.2.2.2 rfl (by decide) u5 n (flat ((l.take k).filter (fun o : Op3 => o.1 == tx))) rfl (HOWN.out.alloc _) ⟨wr.heap.size, 0, none⟩ 1 1 (flat [(t, a, i)]) rfl rfl (one_at wr t a i) (flat_one _) (by unfold maxLen; omega) (by omega) (by simp; omega) ?_; intro v1 w1 hown1 hgr1 hnil1))
        have hB1 := (hbel.alloc hsz _).grown hgr1 (by simp; omega) (fun m hm => (HOWN.out.lt m hm).1)
        go_roundw
        case rel => exact ⟨k + 1, by omega, by go_num, by rw [filter_keep (q := (fun o : Op3 => o.1 == tx)) HT.out HQ.out, List.length_append, HN.out, flat_append]; exact hown1, hB1⟩
        case measure => simp [intOf]; omega
    · go_wp2
      go_ret
      exact ⟨_, rfl, by rw [List.take_of_length_le (by omega)] at hown; exact hown, hbel⟩
theorem refOf_any (l : List Op3) (v : Value) (tx : Int) (w : World) (hI : IsOps w v l) (hlen : l.length ≤ 140737488351) :
    Calls Try.prog 40 #[v, .int .i64 tx] w fun e w' => ∃ v', e = .returned v' ∧ IsOps w' v' (l.filter (fun o : Op3 => o.1 == tx)) ∧ Below w.heap.size w w' :=
  (refOf_own l v tx w hI hlen).mono fun _ _ ⟨v', he, ho, hb⟩ => ⟨v', he, isOps_own ho rfl, hb⟩

/-- A slice value that is no longer than its capacity. -/
def Room (v : Value) : Prop := ∃ ad n c, v = .slice ad n c ∧ n ≤ c
theorem own_room {w : World} {base e s n : Nat} {v : Value} {xs : List Value} (h : w.ownsRow base e s v n xs) : Room v := by
  obtain ⟨_, ⟨hv, hd⟩ | ⟨g, cap, cur, hv, hb, hg, hn, _⟩⟩ := h
  · exact ⟨none, 0, 0, hv, Nat.le_refl _⟩
  · exact ⟨_, _, _, hv, hn⟩
end Go.Proofs.Ytccjognnehoodaf

namespace Go.Proofs.Ytccjognnehoodaf
open Go.RowKit

/-- Who wrote last, as the program keeps it: item by item. -/
def lastF6 (of : Int → Dl) (ds : List Int) (i : Nat) : Int := lastK of ds ((i : Int) + 1)
def lastL (of : Int → Dl) (ds : List Int) : List Int := (List.range 6).map (lastF6 of ds)
def seenL (of : Int → Dl) (ds : List Int) : List Op3 := ds.flatMap fun t => (of t).seen
theorem seenL_snoc (of : Int → Dl) (ds : List Int) (t : Int) : seenL of (ds ++ [t]) = seenL of ds ++ (of t).seen := by unfold seenL; rw [List.flatMap_append]; simp
theorem lastL_len (of : Int → Dl) (ds : List Int) : (lastL of ds).length = 6 := by simp [lastL]
theorem seenL_len {of : Int → Dl} {m : Nat} (h : ∀ t, (of t).seen.length ≤ m) : ∀ ds : List Int, (seenL of ds).length ≤ ds.length * m := by
  intro ds
  induction ds with
  | nil => simp [seenL]
  | cons t r ih =>
    unfold seenL at ih ⊢
    rw [List.flatMap_cons, List.length_append, List.length_cons, Nat.succ_mul]
    have := h t
    omega
/-- In which order those that are done are told. -/
def ordN (byN : Bool) (done : List Int) : List Int := if byN = true then byNum done else done
/-- What a run comes to. -/
def outU (kind : Int) (okF : Kst → Int → Dl → Bool) (byN : Bool) (l : List Op3) : (List Int × List Op3 × List Int) × Int :=
  if (chk l).2 ≠ 0 then (([], [], []), (chk l).2) else ((ordN byN (runK kind okF l l.length).done, seenL (runK kind okF l l.length).of (ordN byN (runK kind okF l l.length).done), lastL (runK kind okF l l.length).of (ordN byN (runK kind okF l l.length).done)), 0)
theorem outU_bad {kind : Int} {okF : Kst → Int → Dl → Bool} {byN : Bool} {l : List Op3} (h : (chk l).2 ≠ 0) : outU kind okF byN l = (([], [], []), (chk l).2) := by unfold outU; rw [if_pos h]
theorem outU_ok {kind : Int} {okF : Kst → Int → Dl → Bool} {byN : Bool} {l : List Op3} (h : (chk l).2 = 0) : outU kind okF byN l = ((ordN byN (runK kind okF l l.length).done, seenL (runK kind okF l l.length).of (ordN byN (runK kind okF l l.length).done), lastL (runK kind okF l l.length).of (ordN byN (runK kind okF l l.length).done)), 0) := by unfold outU; rw [if_neg (by simpa using h)]
theorem byNum_len (done : List Int) : (byNum done).length ≤ 6 := by
  unfold byNum
  exact Nat.le_trans (List.length_filter_le _ _) (by simp)
theorem ordN_len {byN : Bool} {done : List Int} (h : done.length ≤ 6) : (ordN byN done).length ≤ 6 := by
  unfold ordN
  split
  · exact byNum_len done
  · exact h
theorem outU_len (kind : Int) (okF : Kst → Int → Dl → Bool) (byN : Bool) (l : List Op3) : (outU kind okF byN l).1.1.length ≤ 6 ∧ (outU kind okF byN l).1.2.1.length ≤ 240 ∧ (outU kind okF byN l).1.2.2.length ≤ 6 := by
  by_cases h : (chk l).2 = 0
  · rw [outU_ok h]
    have h1 := ordN_len (byN := byN) (kst_six kind okF h)
    have h2 := chk_len h
    have h3 := seenL_len (of := (runK kind okF l l.length).of) (m := 40) (fun t => by have := ((kst_len kind okF l l.length).1 t).1; omega) (ordN byN (runK kind okF l l.length).done)
    refine ⟨h1, ?_, by show (lastL _ _).length ≤ 6; rw [lastL_len]; exact Nat.le_refl _⟩
    show (seenL _ _).length ≤ 240
    omega
  · rw [outU_bad h]
    exact ⟨by simp, by simp, by simp⟩
/-- What a Run of a kind is asked to keep. -/
def RunsC (F : FuncId) (kind : Int) (okF : Kst → Int → Dl → Bool) (byN : Bool) : Prop := ∀ (l : List Op3) (v : Value) (w : World), IsOps w v l → Calls Try.prog F #[v] w fun e w' => ∃ a1 a2 a3, e = .returned (.tuple #[.agg #[a1, a2, a3], errV (outU kind okF byN l).2]) ∧
  IsInts w' a1 (outU kind okF byN l).1.1 ∧ IsOps w' a2 (outU kind okF byN l).1.2.1 ∧ IsInts w' a3 (outU kind okF byN l).1.2.2 ∧ Room a1 ∧ Below w.heap.size w w'
end Go.Proofs.Ytccjognnehoodaf
