/-
  PROVED HERE: laneref2.Tree, the document's own answer, tells what is wrong with a tree (treeE); laneref2.GripEdges tells which deals locked an item ahead of which, in order (gripL). Old memory stays as it was.
  Conditions: of GripEdges, that the deals are 1 to 6.
-/
import Derived.Test.YtmgadiopjofegaiDoorTreeAsk
import Derived.Test.YtmgadiopjofegaiDoorRefAdd
import Derived.Test.YtmgadiopjofegaiDoorAntiPlain
import Derived.BigQuiet
import Derived.Deep.QuietTactic
import Derived.Deep.Cut
namespace Go.Proofs.YtmgadiopjofegaiDoor
open Go.RowKit

theorem hid_r {p : Prop} (h : p) : Hid p := h
/-- Is an entry of a tree wrong? -/
def upBad (up : List Int) (i : Nat) : Bool := decide (0 < i) && (decide (up.getD i 0 < 1) || decide ((i : Int) < up.getD i 0))
def upTo? (up : List Int) (n : Nat) : Bool := (List.range n).any (upBad up)
theorem upTo?_succ (up : List Int) (n : Nat) : upTo? up (n + 1) = (upTo? up n || upBad up n) := by unfold upTo?; rw [List.range_succ, List.any_append]; simp
theorem treeE_eq (up : List Int) : treeE up = if up.length < 1 ∨ 6 < up.length then 1 else if up.getD 0 0 ≠ 0 then 3 else if upTo? up up.length = true then 1 else 0 := rfl
theorem upTo?_mono {up : List Int} {k n : Nat} (h : upTo? up k = true) (hk : k ≤ n) : upTo? up n = true := by
  unfold upTo? at h ⊢
  obtain ⟨i, hi, e⟩ := List.any_eq_true.1 h
  exact List.any_eq_true.2 ⟨i, by rw [List.mem_range] at hi ⊢; omega, e⟩
set_option maxHeartbeats 8000000 in
theorem refTree_any (up : List Int) (v : Value) (w : World) (hI : IsInts w v up) :
    Calls Tryd.prog 5 #[v] w fun e w' => e = .returned (.int .i64 (treeE up)) ∧ w' = w := by
  rw [treeE_eq]
  obtain ⟨ad, b, off, cap, rfl, ha, -, -, hc⟩ := hI
  have HE : Hid (∀ k, k < up.length → ad = some ⟨b, off, none⟩ ∧ w.cell? ⟨b, off + k, none⟩ = some (.int .i64 (up.getD k 0))) := fun k hk => ⟨ha (by omega), hc k hk⟩
  clear ha hc
  by_cases h1 : up.length < 1
  · rw [if_pos (.inl h1)]
    have h1' : (up.length : Int) < 1 := by omega
    clear HE h1
    go_enter Tryd.func5, Tryd.ntmps5
    go_wp2_with fail
    go_ret
    exact ⟨rfl, rfl⟩
  · by_cases h2 : 6 < up.length
    · rw [if_pos (.inr h2)]
      have h1' : ¬ (up.length : Int) < 1 := by omega
      have h2' : (6 : Int) < (up.length : Int) := by omega
      clear HE h1 h2
      go_enter Tryd.func5, Tryd.ntmps5
      go_wp2_with fail
      go_ret
      exact ⟨rfl, rfl⟩
    · rw [if_neg (by omega)]
      obtain ⟨n, hn⟩ : ∃ n, up.length = n := ⟨_, rfl⟩
      rw [hn] at HE h1 h2 ⊢
      have h1' : ¬ (n : Int) < 1 := by omega
      have h2' : ¬ (6 : Int) < (n : Int) := by omega
      have h0' : (0 : Int) < (n : Int) := by omega
      obtain ⟨rfl, c0⟩ := HE.out 0 (by omega)
      obtain ⟨u0, hu0⟩ : ∃ u, up.getD 0 0 = u := ⟨_, rfl⟩
      rw [hu0] at c0 ⊢
      rw [Nat.add_zero] at c0
      by_cases h3 : u0 = 0
      · subst h3
        rw [if_neg (by simp)]
        obtain ⟨r, hr⟩ : ∃ r : Int, (if upTo? up n = true then (1 : Int) else 0) = r := ⟨_, rfl⟩
        rw [hr]
        have HRR := hid_r hr
        clear hn hr
        go_enter Tryd.func5, Tryd.ntmps5
        go_wp2_with fail
        go_loopw [3] (fun v3 wr => ∃ k : Nat, 1 ≤ k ∧ k ≤ n ∧ v3 = .int .i64 k ∧ upTo? up k = false ∧ wr = w) (fun v3 _ => n - (intOf v3).toNat)
        case atStart => exact ⟨1, Nat.le_refl _, by omega, rfl, by simp [upTo?, upBad], rfl⟩
        case round =>
          obtain ⟨k, hk1, hk, rfl, hno, hwr⟩ := hrel
          rw [hwr]
          clear hwr
          have HNO := hid_r hno
          clear hno
          by_cases hlt : k < n
          · have hlt' : (k : Int) < (n : Int) := by omega
            have hk0 : (0 : Int) ≤ (k : Int) := by omega
            have hkn : ¬ (k : Int) < 0 := by omega
            obtain ⟨-, ck⟩ := HE.out k hlt
            obtain ⟨u, hu⟩ : ∃ u, up.getD k 0 = u := ⟨_, rfl⟩
            rw [hu] at ck
            have HB : Hid (upBad up k = (decide (u < 1) || decide ((k : Int) < u))) := by show _ = _; unfold upBad; rw [hu, decide_eq_true (show 0 < k by omega), Bool.true_and]
            clear hu
            by_cases g1 : u < 1
            · have HY : Hid (upTo? up n = true) := upTo?_mono (k := k + 1) (by rw [upTo?_succ, HB.out, decide_eq_true g1]; simp) (by omega)
              go_wp2_with fail
              go_ret
              exact ⟨by rw [← HRR.out, if_pos HY.out]; rfl, rfl⟩
            · by_cases g2 : (k : Int) < u
              · have HY : Hid (upTo? up n = true) := upTo?_mono (k := k + 1) (by rw [upTo?_succ, HB.out, decide_eq_true g2]; simp) (by omega)
                go_wp2_with fail
                go_ret
                exact ⟨by rw [← HRR.out, if_pos HY.out]; rfl, rfl⟩
              · have HN : Hid (upTo? up (k + 1) = false) := by show _ = _; rw [upTo?_succ, HB.out, HNO.out, decide_eq_false g1, decide_eq_false g2]; rfl
                go_wp2_with fail
                go_roundw
                case rel => exact ⟨k + 1, by omega, by omega, by go_num, HN.out, trivial⟩
                case measure => simp [intOf]; omega
          · have hlt' : ¬ (k : Int) < (n : Int) := by omega
            have HY : Hid (¬ upTo? up n = true) := by show ¬ _; rw [show n = k by omega, HNO.out]; decide
            go_wp2_with fail
            go_ret
            exact ⟨by rw [← HRR.out, if_neg HY.out]; rfl, rfl⟩
      · rw [if_pos h3]
        have h3' : (u0 != 0) = true := by simpa using h3
        clear hn h3 HE
        go_enter Tryd.func5, Tryd.ntmps5
        go_wp2_with fail
        go_ret
        exact ⟨rfl, rfl⟩
/-- Both are locks of one item. -/
def pairG (l : List Grip3) (i k : Nat) : Bool := (gAt l i).2.2 && ((gAt l k).2.2 && (gAt l i).2.1 == (gAt l k).2.1)
def gEdge (l : List Grip3) (i k : Nat) : Edge2 := ((gAt l i).1, (gAt l k).1)
/-- As they are put together: with the k-th of those behind the i-th. -/
def gRow (l : List Grip3) (i : Nat) (out : List Edge2) : Nat → List Edge2
  | 0 => out
  | k + 1 => if i < k ∧ pairG l i k = true then addE (gRow l i out k) (gEdge l i k) else gRow l i out k
def gAll (l : List Grip3) : Nat → List Edge2
  | 0 => []
  | i + 1 => gRow l i (gAll l i) l.length
theorem gRow_first (l : List Grip3) (i : Nat) (out : List Edge2) : gRow l i out (i + 1) = out := by
  have : ∀ k, k ≤ i + 1 → gRow l i out k = out := fun k => by
    induction k with
    | zero => intro _; rfl
    | succ k ih => intro hk; rw [gRow, if_neg (by omega), ih (by omega)]
  exact this _ (Nat.le_refl _)
theorem gRow_mem (l : List Grip3) (i : Nat) (out : List Edge2) (e : Edge2) : ∀ k, e ∈ gRow l i out k ↔ e ∈ out ∨ ∃ m, m < k ∧ i < m ∧ pairG l i m = true ∧ e = gEdge l i m := by
  intro k
  induction k with
  | zero => simp [gRow]
  | succ k ih =>
    rw [gRow]
    split
    · rename_i h
      rw [mem_addE3, ih]
      constructor
      · rintro ((h1 | ⟨m, h1, h2, h3, h4⟩) | h1)
        · exact .inl h1
        · exact .inr ⟨m, by omega, h2, h3, h4⟩
        · exact .inr ⟨k, by omega, h.1, h.2, h1⟩
      · rintro (h1 | ⟨m, h1, h2, h3, h4⟩)
        · exact .inl (.inl h1)
        · rcases Nat.lt_or_ge m k with e1 | e1
          · exact .inl (.inr ⟨m, e1, h2, h3, h4⟩)
          · rw [show m = k by omega] at h4; exact .inr h4
    · rename_i h
      rw [ih]
      constructor
      · rintro (h1 | ⟨m, h1, h2, h3, h4⟩)
        · exact .inl h1
        · exact .inr ⟨m, by omega, h2, h3, h4⟩
      · rintro (h1 | ⟨m, h1, h2, h3, h4⟩)
        · exact .inl h1
        · rcases Nat.lt_or_ge m k with e1 | e1
          · exact .inr ⟨m, e1, h2, h3, h4⟩
          · rw [show m = k by omega] at h2 h3; exact absurd ⟨h2, h3⟩ h
theorem gRow_rise (l : List Grip3) (i : Nat) (out : List Edge2) (h : Rise out) : ∀ k, Rise (gRow l i out k) := by
  intro k
  induction k with
  | zero => exact h
  | succ k ih =>
    rw [gRow]
    split
    · exact addE_rise _ _ ih
    · exact ih
theorem gAll_mem (l : List Grip3) (e : Edge2) : ∀ n, e ∈ gAll l n ↔ ∃ i k, i < n ∧ i < k ∧ k < l.length ∧ pairG l i k = true ∧ e = gEdge l i k := by
  intro n
  induction n with
  | zero => simp [gAll]
  | succ n ih =>
    rw [gAll, gRow_mem, ih]
    constructor
    · rintro (⟨i, k, h1, h2, h3, h4, h5⟩ | ⟨m, h1, h2, h3, h4⟩)
      · exact ⟨i, k, by omega, h2, h3, h4, h5⟩
      · exact ⟨n, m, by omega, h2, h1, h3, h4⟩
    · rintro ⟨i, k, h1, h2, h3, h4, h5⟩
      rcases Nat.lt_or_ge i n with e1 | e1
      · exact .inl ⟨i, k, e1, h2, h3, h4, h5⟩
      · rw [show i = n by omega] at h2 h4 h5; exact .inr ⟨k, h3, h2, h4, h5⟩
theorem gAll_rise (l : List Grip3) : ∀ n, Rise (gAll l n) := by
  intro n
  induction n with
  | zero => exact List.Pairwise.nil
  | succ n ih => exact gRow_rise l n _ ih _
theorem gAll_grip {l : List Grip3} (h6 : ∀ i, i < l.length → 1 ≤ (gAt l i).1 ∧ (gAt l i).1 ≤ 6) : gAll l l.length = gripL l := by
  refine rise_eq _ _ (gAll_rise l _) (List.Pairwise.sublist List.filter_sublist allE_rise) fun e => ?_
  rw [gAll_mem]
  unfold gripL
  rw [List.mem_filter]
  unfold aheadB
  simp only [List.any_eq_true, List.mem_range, Bool.and_eq_true, decide_eq_true_eq, beq_iff_eq]
  constructor
  · rintro ⟨i, k, h1, h2, h3, h4, rfl⟩
    unfold pairG at h4
    rw [Bool.and_eq_true, Bool.and_eq_true, beq_iff_eq] at h4
    exact ⟨mem_allE (h6 i h1).1 (h6 i h1).2 (h6 k h3).1 (h6 k h3).2, i, h1, k, h3, h2, h4.1, h4.2.1, h4.2.2, rfl, rfl⟩
  · rintro ⟨_, i, h1, k, h3, h2, a1, a2, a3, a4, a5⟩
    refine ⟨i, k, h1, h2, h3, ?_, ?_⟩
    · unfold pairG; rw [a1, a2, a3]; simp
    · unfold gEdge; rw [a4, a5]
end Go.Proofs.YtmgadiopjofegaiDoor
