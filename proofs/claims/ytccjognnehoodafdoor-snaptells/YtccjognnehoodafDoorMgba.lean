/-
  PROVED HERE: plain facts, with no word of the program: of the run in which nobody may be between (chapter 13) nobody is; if nobody is between of what is done by what was when deals began (chapter 12), both runs are one; and so it is where one alone writes.
  Conditions: none.
  PROVED HERE: laneref2.Pivots tells, rising, the deals from which and to which an edge leads. Old memory stays as it was.
  Conditions: none.
-/
import Derived.Test.YtccjognnehoodafDoorMgaz
import Derived.Test.YtccjognnehoodafDoorMgaf
import Derived.Test.YtccjognnehoodafDoorMgal
import Derived.Maps.AppendAt
namespace Go.Proofs.YtccjognnehoodafDoor

theorem any_alike3 {α : Type} {f g : α → Bool} : ∀ (l : List α), (∀ x ∈ l, f x = g x) → l.any f = l.any g := by
  intro l
  induction l with
  | nil => intros; rfl
  | cons a l ih =>
    intro h
    rw [List.any_cons, List.any_cons, h a (List.mem_cons_self ..), ih fun x hx => h x (List.mem_cons_of_mem _ hx)]
theorem piv_congr {of of' : Int → Dl} {ds : List Int} (h : ∀ t ∈ ds, ∀ u ∈ ds, t ≠ u → antiB t (of t) (of u) = antiB t (of' t) (of' u)) : pivL of ds = pivL of' ds := by
  unfold pivL
  refine any_alike3 _ fun t ht => ?_
  have e1 : intoAnti of ds t = intoAnti of' ds t := by
    unfold intoAnti
    refine any_alike3 _ fun u hu => ?_
    by_cases e : u = t
    · simp [e]
    · rw [h u hu t ht e]
  have e2 : outAnti of ds t = outAnti of' ds t := by
    unfold outAnti
    refine any_alike3 _ fun u hu => ?_
    by_cases e : u = t
    · simp [e]
    · rw [h t ht u hu fun e' => e e'.symm]
  rw [e1, e2]
/-- One that commits now, and one that runs still: both are at once with the same. -/
theorem piv_commit {l : List Op3} {k : Nat} {s : Kst} (hK : KOk l k s) {t : Int} (hnd : t ∉ s.done) {r : Dl} (hr : r.ended = -1) : pivL (setF s.of t r) (s.done ++ [t]) = pivL (setF s.of t { r with ended := (k : Int) }) (s.done ++ [t]) := by
  have hb : ∀ u ∈ s.done, (s.of u).began < (k : Int) := fun u hu => (hK.times u (hK.comm u hu).1).2
  refine piv_congr fun x hx y hy hxy => ?_
  rcases List.mem_append.1 hx with hx | hx
  · have ex : x ≠ t := fun e => hnd (e ▸ hx)
    rw [setF_other _ _ ex, setF_other _ _ ex]
    rcases List.mem_append.1 hy with hy | hy
    · have ey : y ≠ t := fun e => hnd (e ▸ hy)
      rw [setF_other _ _ ey, setF_other _ _ ey]
    · rw [List.mem_singleton.1 hy, setF_same, setF_same]
      unfold antiB onceK
      dsimp only
      rw [hr]
      have h1 := hb x hx
      have e1 : decide ((s.of x).began < (k : Int)) = true := decide_eq_true h1
      have e2 : decide ((-1 : Int) < 0) = true := by decide
      rw [e1, e2, Bool.or_true, Bool.true_or]
  · rw [List.mem_singleton.1 hx, setF_same, setF_same]
    rcases List.mem_append.1 hy with hy | hy
    · have ey : y ≠ t := fun e => hnd (e ▸ hy)
      rw [setF_other _ _ ey, setF_other _ _ ey]
      unfold antiB onceK
      dsimp only
      rw [hr]
      have h1 := hb y hy
      have e1 : decide ((s.of y).began < (k : Int)) = true := decide_eq_true h1
      have e2 : decide ((-1 : Int) < 0) = true := by decide
      rw [e1, e2, Bool.or_true, Bool.true_or]
      rfl
    · exact absurd ((List.mem_singleton.1 hx).trans (List.mem_singleton.1 hy).symm) hxy
theorem piv_stay {s : Kst} {t : Int} (hnd : t ∉ s.done) (r : Dl) : pivL (setF s.of t r) s.done = pivL s.of s.done :=
  piv_congr fun x hx y hy _ => by rw [setF_other s.of r (show x ≠ t from fun e => hnd (e ▸ hx)), setF_other s.of r (show y ≠ t from fun e => hnd (e ▸ hy))]
theorem piv_grow {of of' : Int → Dl} {ds es : List Int} (hs : ∀ t ∈ ds, t ∈ es) (ho : ∀ t ∈ ds, of' t = of t) (h : pivL of ds = true) : pivL of' es = true := by
  unfold pivL at h ⊢
  obtain ⟨t, ht, h1⟩ := List.any_eq_true.1 h
  rw [Bool.and_eq_true] at h1
  refine List.any_eq_true.2 ⟨t, hs t ht, ?_⟩
  rw [Bool.and_eq_true]
  unfold intoAnti outAnti at h1 ⊢
  obtain ⟨⟨u, hu, h2⟩, ⟨v, hv, h3⟩⟩ := And.intro (List.any_eq_true.1 h1.1) (List.any_eq_true.1 h1.2)
  exact ⟨List.any_eq_true.2 ⟨u, hs u hu, by rw [ho u hu, ho t ht]; exact h2⟩, List.any_eq_true.2 ⟨v, hs v hv, by rw [ho t ht, ho v hv]; exact h3⟩⟩
/-- What a step does to those that are done. -/
theorem step_parts (kind : Int) (okF : Kst → Int → Dl → Bool) (s : Kst) (k : Int) (o : Op3) :
    (o.2.1 = 3 ∧ okF s o.1 (nowK s k o.1) = true ∧ stepK kind okF s k o = doneStep s k o.1) ∨ ((o.2.1 ≠ 3 ∨ okF s o.1 (nowK s k o.1) = false) ∧ ∃ r lk, stepK kind okF s k o = ⟨s.done, setF s.of o.1 r, setF s.beg o.1 true, lk⟩) := by
  unfold stepK
  split
  · rename_i h1
    exact Or.inr ⟨Or.inl (by omega), _, _, rfl⟩
  · split
    · rename_i h1
      exact Or.inr ⟨Or.inl (by omega), _, _, rfl⟩
    · split
      · rename_i h3
        split
        · rename_i hok
          exact Or.inl ⟨h3, hok, rfl⟩
        · rename_i hok
          exact Or.inr ⟨Or.inr (by simpa using hok), _, _, rfl⟩
      · rename_i h3
        exact Or.inr ⟨Or.inl h3, _, _, rfl⟩
/-- Where nobody may be between nobody is. -/
theorem danger_free {l : List Op3} (h : (chk l).2 = 0) : ∀ k, k ≤ l.length → pivL (runK 3 okBtw l k).of (runK 3 okBtw l k).done = false := by
  obtain ⟨_, h2, h3⟩ := (chk_iff l).1 h
  intro k
  induction k with
  | zero => exact fun _ => rfl
  | succ k ih =>
    intro hk
    have hK := run_kOk 3 okBtw h k (by omega)
    have hnd := hK.free h3 (show k < l.length by omega)
    show pivL (stepK 3 okBtw (runK 3 okBtw l k) (k : Int) (opAt l k)).of (stepK 3 okBtw (runK 3 okBtw l k) (k : Int) (opAt l k)).done = false
    rcases step_parts 3 okBtw (runK 3 okBtw l k) (k : Int) (opAt l k) with ⟨_, h5, h6⟩ | ⟨_, r, lk, h6⟩
    · rw [h6]
      unfold doneStep
      dsimp only
      rw [← piv_commit hK hnd ((hK.now _).2.2.2 hnd)]
      unfold okBtw at h5
      simp at h5
      exact h5.2
    · rw [h6]
      dsimp only
      rw [piv_stay hnd]
      exact ih (by omega)
theorem piv_keep (kind : Int) (okF : Kst → Int → Dl → Bool) {l : List Op3} (h : (chk l).2 = 0) (k : Nat) : ∀ n, k + n ≤ l.length → pivL (runK kind okF l k).of (runK kind okF l k).done = true → pivL (runK kind okF l (k + n)).of (runK kind okF l (k + n)).done = true := by
  obtain ⟨_, h2, h3⟩ := (chk_iff l).1 h
  intro n
  induction n with
  | zero => exact fun _ hh => hh
  | succ n ih =>
    intro hn hh
    have h1 := ih (by omega) hh
    have hK := run_kOk kind okF h (k + n) (by omega)
    have hnd := hK.free h3 (show k + n < l.length by omega)
    show pivL (stepK kind okF (runK kind okF l (k + n)) ((k + n : Nat) : Int) (opAt l (k + n))).of (stepK kind okF (runK kind okF l (k + n)) ((k + n : Nat) : Int) (opAt l (k + n))).done = true
    rcases step_parts kind okF (runK kind okF l (k + n)) ((k + n : Nat) : Int) (opAt l (k + n)) with ⟨_, _, h6⟩ | ⟨_, r, lk, h6⟩
    · rw [h6]
      unfold doneStep
      dsimp only
      exact piv_grow (fun t ht => List.mem_append_left _ ht) (fun t ht => setF_other _ _ fun e => hnd (e ▸ ht)) h1
    · rw [h6]
      dsimp only
      rw [piv_stay hnd]
      exact h1
theorem from_same (s : Kst) (k : Int) (r : Dl) (t item : Int) : fromK 3 s k r t item = fromK 2 s k r t item := rfl
theorem hit_same (s : Kst) (t : Int) (r : Dl) : hitK 3 s t r = hitK 2 s t r := by
  unfold hitK
  simp
/-- NOBODY IS BETWEEN: then both runs are one. -/
theorem danger_snap {l : List Op3} (h : (chk l).2 = 0) (hp : pivL (runK 2 okS l l.length).of (runK 2 okS l l.length).done = false) : ∀ k, k ≤ l.length → runK 3 okBtw l k = runK 2 okS l k := by
  obtain ⟨_, h2, h3⟩ := (chk_iff l).1 h
  intro k
  induction k with
  | zero => exact fun _ => rfl
  | succ k ih =>
    intro hk
    show stepK 3 okBtw (runK 3 okBtw l k) (k : Int) (opAt l k) = stepK 2 okS (runK 2 okS l k) (k : Int) (opAt l k)
    rw [ih (by omega)]
    have hK := run_kOk 2 okS h k (by omega)
    have hnd := hK.free h3 (show k < l.length by omega)
    have hok : (opAt l k).2.1 = 3 → okBtw (runK 2 okS l k) (opAt l k).1 (nowK (runK 2 okS l k) k (opAt l k).1) = okS (runK 2 okS l k) (opAt l k).1 (nowK (runK 2 okS l k) k (opAt l k).1) := fun ho => by
      unfold okBtw
      rw [hit_same]
      show (okS (runK 2 okS l k) (opAt l k).1 (nowK (runK 2 okS l k) k (opAt l k).1) && !pivL _ _) = _
      cases hs : okS (runK 2 okS l k) (opAt l k).1 (nowK (runK 2 okS l k) k (opAt l k).1) with
      | false => rfl
      | true =>
        rw [Bool.true_and, piv_commit hK hnd ((hK.now _).2.2.2 hnd)]
        have hstep : runK 2 okS l (k + 1) = doneStep (runK 2 okS l k) k (opAt l k).1 := by
          show stepK 2 okS (runK 2 okS l k) (k : Int) (opAt l k) = _
          unfold stepK
          rw [if_neg (by omega), if_neg (by omega), if_pos ho, if_pos hs]
        cases hx : pivL (setF (runK 2 okS l k).of (opAt l k).1 { nowK (runK 2 okS l k) k (opAt l k).1 with ended := (k : Int) }) ((runK 2 okS l k).done ++ [(opAt l k).1]) with
        | false => rfl
        | true =>
          have hh : pivL (runK 2 okS l (k + 1)).of (runK 2 okS l (k + 1)).done = true := by
            rw [hstep]
            exact hx
          have := piv_keep 2 okS h (k + 1) (l.length - (k + 1)) (by omega) hh
          rw [show k + 1 + (l.length - (k + 1)) = l.length by omega, hp] at this
          cases this
    unfold stepK
    split
    · rfl
    · split
      · rfl
      · split
        · rename_i ho
          rw [hok ho]
        · rfl
/-- Of two that are done an edge leads to one that writes. -/
theorem anti_writes {t : Int} {a b : Dl} (h : antiB t a b = true) : b.wrote ≠ [] := fun e => by
  unfold antiB at h
  rw [e] at h
  simp at h
/-- WHERE ONE ALONE WRITES NOBODY IS BETWEEN. -/
theorem one_writes (kind : Int) (okF : Kst → Int → Dl → Bool) {l : List Op3} (h : (chk l).2 = 0) {tx : Int} (hw : ∀ o ∈ l, o.2.1 = 2 → o.1 = tx) : pivL (runK kind okF l l.length).of (runK kind okF l l.length).done = false := by
  have hK := run_kOk kind okF h l.length (Nat.le_refl _)
  have hwr := run_wr kind okF h l.length (Nat.le_refl _)
  rw [List.take_length] at hwr
  have only : ∀ t ∈ (runK kind okF l l.length).done, ((runK kind okF l l.length).of t).wrote ≠ [] → t = tx := fun t ht hne => by
    rw [hwr t (hK.comm t ht).1] at hne
    unfold wrL ofL at hne
    obtain ⟨x, hx⟩ := List.exists_mem_of_ne_nil _ hne
    obtain ⟨o, ho, _⟩ := List.mem_map.1 hx
    rw [List.mem_filter, List.mem_filter] at ho
    rw [← hw o ho.1.1 (by simpa using ho.2)]
    have := ho.1.2
    simp at this
    exact this.symm
  cases hx : pivL (runK kind okF l l.length).of (runK kind okF l l.length).done with
  | false => rfl
  | true =>
    exfalso
    unfold pivL intoAnti outAnti at hx
    obtain ⟨t, ht, h1⟩ := List.any_eq_true.1 hx
    rw [Bool.and_eq_true] at h1
    obtain ⟨u, hu, h2⟩ := List.any_eq_true.1 h1.1
    obtain ⟨v, hv, h3⟩ := List.any_eq_true.1 h1.2
    rw [Bool.and_eq_true] at h2 h3
    have e1 := only t ht (anti_writes h2.2)
    have e2 := only v hv (anti_writes h3.2)
    have := h3.1
    rw [e1, e2] at this
    simp at this
end Go.Proofs.YtccjognnehoodafDoor

namespace Go.Proofs.YtccjognnehoodafDoor
open Go.RowKit

/-- Do edges lead to it, and from it? -/
def pivAt (l : List Edge2) (d : Int) : Bool := (l.any fun e => e.2 == d) && (l.any fun e => e.1 == d)
/-- Those of the first n deals that are between. -/
def pivTo (l : List Edge2) (n : Nat) : List Int := ((List.range n).map fun (k : Nat) => (k : Int) + 1).filter (pivAt l)
theorem pivTo_succ (l : List Edge2) (n : Nat) : pivTo l (n + 1) = pivTo l n ++ (if pivAt l ((n : Int) + 1) = true then [(n : Int) + 1] else []) := by
  unfold pivTo
  rw [List.range_succ, List.map_append, List.filter_append]
  by_cases h : pivAt l ((n : Int) + 1) = true <;> simp [h]
theorem pivTo_len (l : List Edge2) (n : Nat) : (pivTo l n).length ≤ n := by
  unfold pivTo
  refine Nat.le_trans (List.length_filter_le ..) ?_
  simp
theorem any_step {l : List Edge2} {k : Nat} (hk : k < l.length) (f : Edge2 → Bool) : (l.take (k + 1)).any f = ((l.take k).any f || f (l.getD k (0, 0))) := by
  rw [List.take_succ_eq_append_getElem hk]
  have : l[k] = l.getD k (0, 0) := by simp [List.getD, List.getElem?_eq_getElem hk]
  simp [this]
set_option maxHeartbeats 8000000 in
theorem pivots_any (l : List Edge2) (v : Value) (w : World) (hI : IsEdges w v l) (hl : l.length ≤ 4000) :
    Calls Tryd.prog 24 #[v] w fun e w' => ∃ v', e = .returned v' ∧ w'.ownsRow w.heap.size 3 1 v' (pivTo l 6).length ((pivTo l 6).map (Value.int .i64)) ∧ Below w.heap.size w w' := by
  obtain ⟨ad, b, off, cap, rfl, ha, -, hbB, hc⟩ := hI
  have HE : Hid (∀ W, Below w.heap.size w W → ∀ k, k < l.length → ad = some ⟨b, off, none⟩ ∧ W.cell? ⟨b, off + k * 2, none⟩ = some (.int .i64 (l.getD k (0, 0)).1) ∧ W.cell? ⟨b, off + k * 2 + 1, none⟩ = some (.int .i64 (l.getD k (0, 0)).2)) := fun W hW k hk => by
    refine ⟨ha (by omega), ?_⟩
    exact (hc.below hW hbB) k hk
  obtain ⟨i0, hi, hz0, hs0, hy0⟩ := info_parts infoInt
  have HI : Hid (Tryd.prog.info? 3 = some i0 ∧ i0.zero = some (.int .i64 0) ∧ i0.size = 1 ∧ i0.bytes = 8) := ⟨hi, hz0, hs0, hy0⟩
  clear hi hz0 hs0 hy0 ha hbB hc
  go_enter Tryd.func24, Tryd.ntmps24
  go_wp2_with fail
  go_loopw [3, 4, 5, 6, 7] (fun v3 v4 _ _ _ wr => ∃ n : Nat, n ≤ 6 ∧ v4 = .int .i64 ((n : Int) + 1) ∧ wr.ownsRow w.heap.size 3 1 v3 (pivTo l n).length ((pivTo l n).map (Value.int .i64)) ∧ Below w.heap.size w wr) (fun _ v4 _ _ _ _ => 7 - (intOf v4).toNat)
  case atStart => exact ⟨0, Nat.zero_le _, rfl, World.ownsRow_nil _ _ _ _, Below.refl _ _⟩
  case round =>
    obtain ⟨n, hn, rfl, hown, hbel⟩ := hrel
    obtain ⟨W2, hw2⟩ : ∃ W2, W2 = wr := ⟨_, rfl⟩
    subst hw2
    have HOWN : Hid (W2.ownsRow w.heap.size 3 1 u3 (pivTo l n).length ((pivTo l n).map (Value.int .i64))) := hown
    have HBEL : Hid (Below w.heap.size w W2) := hbel
    have hsz := hbel.size
    clear hown
    by_cases hlt : n < 6
    · have hlt' : (n : Int) + 1 ≤ 6 := by omega
      have HC := HE.out W2 hbel
      have HC' : Hid (∀ k, k < l.length → ad = some ⟨b, off, none⟩ ∧ W2.cell? ⟨b, off + k * 2, none⟩ = some (.int .i64 (l.getD k (0, 0)).1) ∧ W2.cell? ⟨b, off + k * 2 + 1, none⟩ = some (.int .i64 (l.getD k (0, 0)).2)) := HC
      clear HC hbel
      go_wp2_with fail
      go_loopw [5, 6, 7] (fun v5 v6 v7 wi => ∃ k : Nat, k ≤ l.length ∧ v7 = .int .i64 k ∧ v5 = .bool ((l.take k).any fun e => e.2 == (n : Int) + 1) ∧ v6 = .bool ((l.take k).any fun e => e.1 == (n : Int) + 1) ∧ wi = W2) (fun _ _ v7 _ => l.length - (intOf v7).toNat)
      case atStart => exact ⟨0, Nat.zero_le _, rfl, rfl, rfl, rfl⟩
      case round =>
        obtain ⟨k, hk, rfl, rfl, rfl, hwi⟩ := hrel
        rw [hwi]
        clear hwi
        by_cases hkl : k < l.length
        · obtain ⟨rfl, c0, c1⟩ := HC'.out k hkl
          have HS2 : Hid (((l.take (k + 1)).any fun e => e.2 == (n : Int) + 1) = (((l.take k).any fun e => e.2 == (n : Int) + 1) || (l.getD k (0, 0)).2 == (n : Int) + 1)) := any_step hkl _
          have HS1 : Hid (((l.take (k + 1)).any fun e => e.1 == (n : Int) + 1) = (((l.take k).any fun e => e.1 == (n : Int) + 1) || (l.getD k (0, 0)).1 == (n : Int) + 1)) := any_step hkl _
          generalize ((l.take k).any fun e => e.2 == (n : Int) + 1) = x2 at HS2
          generalize ((l.take k).any fun e => e.1 == (n : Int) + 1) = x1 at HS1
          generalize (l.getD k (0, 0)).1 = f at c0 HS1
          generalize (l.getD k (0, 0)).2 = g at c1 HS2
          cases x2
          all_goals cases x1
          all_goals
            go_wp2_with fail
            go_roundw
            case rel => exact ⟨k + 1, by omega, by go_num, by rw [HS2.out]; simp, by rw [HS1.out]; simp, trivial⟩
            case measure => simp [intOf]; omega
        · have hk' : k = l.length := by omega
          subst hk'
          rw [List.take_length]
          have HP : Hid (pivTo l (n + 1) = pivTo l n ++ (if ((l.any fun e => e.2 == (n : Int) + 1) && (l.any fun e => e.1 == (n : Int) + 1)) = true then [(n : Int) + 1] else [])) := pivTo_succ l n
          have hpl := pivTo_len l n
          generalize (l.any fun e => e.2 == (n : Int) + 1) = x2 at HP
          generalize (l.any fun e => e.1 == (n : Int) + 1) = x1 at HP
          cases x2
          · have HQ : Hid (pivTo l (n + 1) = pivTo l n) := by show _ = _; rw [HP.out]; simp
            go_wp2_with fail
            go_roundw
            case rel => exact ⟨n + 1, by omega, by go_num, by rw [HQ.out]; exact HOWN.out, HBEL.out⟩
            case measure => simp [intOf]; omega
          · cases x1
            · have HQ : Hid (pivTo l (n + 1) = pivTo l n) := by show _ = _; rw [HP.out]; simp
              go_wp2_with fail
              go_roundw
              case rel => exact ⟨n + 1, by omega, by go_num, by rw [HQ.out]; exact HOWN.out, HBEL.out⟩
              case measure => simp [intOf]; omega
            · have HQ : Hid (pivTo l (n + 1) = pivTo l n ++ [(n : Int) + 1]) := by show _ = _; rw [HP.out]; simp
              go_wp2_with (
                at_builtin
                refine wpList_append_own _ rfl (.tmp 42) (.tmp 44) 23 rfl w.heap.size 3 i0 (.int .i64 0) 1 8 Tryd.underlying23 HI.out.1 HI.out.2.1 HI.out.2.2.1 HI.out.2.2.2 rfl (by decide) u3 (pivTo l n).length ((pivTo l n).map (Value.int .i64)) rfl (HOWN.out.alloc _) ⟨W2.heap.size, 0, none⟩ 1 1 [.int .i64 ((n : Int) + 1)] rfl rfl (cell_one_new _ _ _) (by simp [Value.oneCell']) (by unfold maxLen; omega) (by omega) (by simp; omega) ?_
                intro v1 w1 hown1 hgr1 hnil1)
              have hB1 := (HBEL.out.alloc hsz _).grown hgr1 (by simp; omega) (fun m hm => (HOWN.out.lt m hm).1)
              go_roundw
              case rel => exact ⟨n + 1, by omega, by go_num, by rw [HQ.out]; simpa using hown1, hB1⟩
              case measure => simp [intOf]; omega
    · have hn' : n = 6 := by omega
      subst hn'
      go_wp2_with fail
      go_ret
      exact ⟨_, rfl, HOWN.out, hbel⟩
end Go.Proofs.YtccjognnehoodafDoor
