/-
  PROVED HERE: history.Print writes a list of ops that is right as its text; of any other it tells Check's error. Old memory stays as it was.
  Conditions: none.
-/
import Derived.Test.YtjaeaanpbdmfgaaDoorText
import Derived.Test.YtjaeaanpbdmfgaaDoorDeals
import Derived.RangeFuncRecord
namespace Go.Proofs.YtjaeaanpbdmfgaaDoor
open Go.RowKit
set_option linter.unusedSimpArgs false

theorem isBuilder_below {T e B b B1 : Nat} {bs : List Value} {w w1 : World} (h : Lib.IsBuilder T e B b bs w) (hb : Below B1 w w1) (hB : w.heap.size ≤ B1) : Lib.IsBuilder T e B b bs w1 := by
  have one : ∀ p, Lib.BuilderAt T e B b p bs w → Lib.BuilderAt T e B b p bs w1 := by
    rintro p ⟨h1, v, hbk, hown, hne⟩
    exact ⟨h1, v, (hb.block b (by have := block_lt hbk; omega)).trans hbk, own_below hown hb hB, hne⟩
  rcases h with h | h
  · exact .inl (one _ h)
  · exact .inr (one _ h)
theorem strCells_mk (l : List UInt8) : Lib.strCells ⟨l.toArray⟩ = Lib.byteCells l := rfl
theorem byteCells_append (l m : List UInt8) : Lib.byteCells (l ++ m) = Lib.byteCells l ++ Lib.byteCells m := by simp [Lib.byteCells]
theorem txtL_ne {l : List Op3} (h : l ≠ []) : txtL l ≠ [] := by
  cases l with
  | nil => exact absurd rfl h
  | cons a r => intro e; have := (opTxt_len a).2; simp [txtL] at e; rw [e.1] at this; simp at this

set_option maxHeartbeats 2000000 in
theorem print_bad (l : List Op3) (v : Value) (w : World) (h : IsOps w v l) (hc : (chk l).2 ≠ 0) :
    Calls Tryd.prog 18 #[v] w fun e w' => e = .returned (.tuple #[.string ⟨#[]⟩, .iface 67 (.int .i64 (chk l).2)]) ∧ Below w.heap.size w w' := by
  go_enter Tryd.func18, Tryd.ntmps18
  go_wp2_with (go_at_call 9; refine (check_bad l v _ h hc).mono ?_; rintro e w1 ⟨rfl, hb1⟩)
  go_ret2
  exact ⟨rfl, hb1⟩

set_option maxHeartbeats 8000000 in
theorem print_ok (l : List Op3) (v : Value) (w : World) (h : IsOps w v l) (hc : (chk l).2 = 0) :
    Calls Tryd.prog 18 #[v] w fun e w' => e = .returned (.tuple #[.string ⟨(txtL l).toArray⟩, .nilIface]) ∧ Below w.heap.size w w' := by
  have hl40 := chk_len hc
  have HV : Hid (∀ o ∈ l, isOpB o = true) := chk_ops hc
  have hI := h
  obtain ⟨ad, b, off, cap, rfl, ha, hn, hbB, hops⟩ := h
  go_enter Tryd.func18, Tryd.ntmps18
  go_wp2_with (go_at_call 9; refine (check_ok l _ _ hI hc).mono ?_; rintro e w1 ⟨rfl, hb1⟩)
  have hs1 := hb1.size
  clear hc hI
  go_loopw [19] (fun v19 wr => ∃ k : Nat, k ≤ l.length ∧ v19 = .int .i64 k ∧ Lib.IsBuilder 78 5 w1.heap.size w1.heap.size (Lib.byteCells (txtL (l.take k))) wr ∧ (k = 0 → wr.heap[w1.heap.size]? = some (.cells #[.pointer none, .slice none 0 0] 78 (0, 0))) ∧ Below w1.heap.size w1 wr ∧ w1.heap.size < wr.heap.size) (fun v19 _ => l.length - (intOf v19).toNat)
  case atStart =>
    have hfr : (w1.alloc (.cells #[.pointer none, .slice none 0 0] 78)).heap[w1.heap.size]? = some (.cells #[.pointer none, .slice none 0 0] 78 (0, 0)) := World.alloc_heap_new w1 _
    exact ⟨0, Nat.zero_le _, rfl, .inl ⟨Nat.le_refl _, _, hfr, World.ownsRow_nil _ _ _ _, by simp [Value.ownBlock]⟩, fun _ => hfr, (Below.refl _ _).alloc (Nat.le_refl _) _, by simp⟩
  case round =>
    obtain ⟨k, hk, rfl, hbd, hfr, hbel, hsz⟩ := hrel
    by_cases hlt : k < l.length
    · obtain rfl := ha (by omega)
      obtain ⟨c0, c1, c2⟩ := hops k hlt
      have hb0 : b < w.heap.size := by
        rcases hbB with h | h
        · exact h
        · subst h; simp at hlt
      rw [← hb1.cell (p := ⟨b, off + k * 3, none⟩) hb0, ← hbel.cell (p := ⟨b, off + k * 3, none⟩) (by simp; omega)] at c0
      rw [← hb1.cell (p := ⟨b, off + k * 3 + 1, none⟩) hb0, ← hbel.cell (p := ⟨b, off + k * 3 + 1, none⟩) (by simp; omega)] at c1
      rw [← hb1.cell (p := ⟨b, off + k * 3 + 2, none⟩) hb0, ← hbel.cell (p := ⟨b, off + k * 3 + 2, none⟩) (by simp; omega)] at c2
      obtain ⟨⟨t, a, i⟩, ho⟩ : ∃ o : Op3, l.getD k (0, 0, 0) = o := ⟨_, rfl⟩
      rw [ho] at c0 c1 c2
      have HO : Hid (isOpB (t, a, i) = true) := HV.out (t, a, i) (by rw [← ho]; simp [List.getD, List.getElem?_eq_getElem hlt])
      have HT : Hid (l.take (k + 1) = l.take k ++ [(t, a, i)]) := by
        show l.take (k + 1) = l.take k ++ [(t, a, i)]
        rw [List.take_succ_eq_append_getElem hlt, ← ho]; simp [List.getD, List.getElem?_eq_getElem hlt]
      have hlt1 := txtL_len (l.take k)
      have hlt2 : (l.take k).length ≤ k := List.length_take_le _ _
      have hlo := opTxt_len (t, a, i)
      have hbd1 := isBuilder_below hbd ((Below.refl wr.heap.size wr).alloc (Nat.le_refl _) (.cells #[.int .i64 t, .int .i64 a, .int .i64 i] 50)) (Nat.le_refl _)
      have hB1 := hbel.alloc (by omega) (.cells #[.int .i64 t, .int .i64 a, .int .i64 i] 50)
      clear ho hops ha hbB hn
      simp only at c0 c1 c2
      by_cases h0 : k = 0
      · have HK0 : Hid (k = 0) := h0
        have hk0 : k < 1 := by omega
        have HBD : Hid (Lib.IsBuilder 78 5 w1.heap.size w1.heap.size (Lib.byteCells []) (wr.alloc (.cells #[.int .i64 t, .int .i64 a, .int .i64 i] 50))) := by
          show Lib.IsBuilder _ _ _ _ _ _
          rw [h0] at hbd1; exact hbd1
        clear hbd hbd1 hfr h0
        go_wp2_with (first | (go_at_call 44; refine (printOp_any (t, a, i) _ HO.out).mono ?_; rintro e w3 ⟨rfl, hb3⟩; have hbd3 := isBuilder_below HBD.out hb3 (Nat.le_refl _); have hs3 := hb3.size; try simp at hs3) | (go_at_call 43; refine (writeString_any w1.heap.size w1.heap.size _ _ _ hbd3 (by simp only [Lib.byteCells_length, List.length_append, List.length_cons, List.length_nil, byteCells_append, show (⟨(opTxt (t, a, i)).toArray⟩ : ByteArray).size = (opTxt (t, a, i)).length from rfl]; omega) (by omega)).mono ?_; rintro e w4 ⟨rfl, hbd4, hb4⟩))
        go_roundw
        case rel => exact ⟨k + 1, by omega, by go_num, .inr (by rw [HT.out, HK0.out]; simpa [txtL, byteCells_append, strCells_mk, Lib.byteCells] using hbd4), fun h => absurd h (by omega), (hB1.trans (hb3.mono (by simp; omega))).trans hb4, by have := hb4.size; omega⟩
        case measure => simp [intOf]; omega
      · have hpos : 0 < k := by omega
        have HNE : Hid (l.take k ≠ []) := by
          show l.take k ≠ []
          intro e
          have := congrArg List.length e
          simp at this
          rcases this with h | h
          · exact h0 h
          · subst h; simp at hlt
        have h0' : ((k : Int) == 0) = false := by simpa using h0
        clear hfr hbd h0
        go_wp2_with (first | (go_at_call 42; refine (writeByte_any w1.heap.size w1.heap.size _ 32 _ hbd1 (by rw [Lib.byteCells_length]; omega) (by simp; omega)).mono ?_; rintro e w2 ⟨rfl, hbd2, hb2, hk2⟩; have hop2 := hk2 wr.heap.size _ _ _ (by decide) (by decide) (World.alloc_heap_new wr (.cells #[.int .i64 t, .int .i64 a, .int .i64 i] 50)); clear hk2; have HBD : Hid (Lib.IsBuilder 78 5 w1.heap.size w1.heap.size (Lib.byteCells (txtL (l.take k) ++ [32])) w2) := .inr (by rw [byteCells_append]; exact hbd2); have d0 : w2.cell? ⟨wr.heap.size, 0, none⟩ = some (.int .i64 t) := (Lib.cell_of_heap hop2 0).trans rfl; have d1 : w2.cell? ⟨wr.heap.size, 1, none⟩ = some (.int .i64 a) := (Lib.cell_of_heap hop2 1).trans rfl; have d2 : w2.cell? ⟨wr.heap.size, 2, none⟩ = some (.int .i64 i) := (Lib.cell_of_heap hop2 2).trans rfl; clear hop2 hbd2; have hs2 := hb2.size; simp at hs2) | (go_at_call 44; refine (printOp_any (t, a, i) _ HO.out).mono ?_; rintro e w3 ⟨rfl, hb3⟩; have hbd3 := isBuilder_below HBD.out hb3 (Nat.le_refl _); have hs3 := hb3.size; try simp at hs3) | (go_at_call 43; refine (writeString_any w1.heap.size w1.heap.size _ _ _ hbd3 (by simp only [Lib.byteCells_length, List.length_append, List.length_cons, List.length_nil, byteCells_append, show (⟨(opTxt (t, a, i)).toArray⟩ : ByteArray).size = (opTxt (t, a, i)).length from rfl]; omega) (by omega)).mono ?_; rintro e w4 ⟨rfl, hbd4, hb4⟩))
        go_roundw
        case rel => exact ⟨k + 1, by omega, by go_num, .inr (by rw [HT.out, txtL_snoc _ _ HNE.out]; simpa [byteCells_append, strCells_mk, Lib.byteCells] using hbd4), fun h => absurd h (by omega), ((hB1.trans hb2).trans (hb3.mono (by omega))).trans hb4, by have := hb4.size; omega⟩
        case measure => simp [intOf]; omega
    · have hB : Below w.heap.size w wr := hb1.trans (hbel.mono hs1)
      rw [List.take_of_length_le (by omega)] at hbd
      by_cases h0 : l = []
      · subst h0
        have hfr0 := hfr (by simpa using hk)
        have HFR : Hid (wr.heap[w1.heap.size]? = some (.cells #[.pointer none, .slice none 0 0] 78 (0, 0))) := hfr0
        clear hfr hfr0 hbd
        go_wp2_with (go_at_call 45; refine (string_nil w.heap.size w1.heap.size _ _ HFR.out).mono ?_; rintro e w2 ⟨rfl, hb2⟩)
        go_ret2
        exact ⟨rfl, hB.trans hb2⟩
      · have HNE : Hid (txtL l ≠ []) := txtL_ne h0
        clear hfr h0
        go_wp2_with (go_at_call 45; refine (string_some w1.heap.size w1.heap.size (txtL l) _ hbd HNE.out).mono ?_; rintro e w2 ⟨rfl, hb2⟩)
        go_ret2
        exact ⟨rfl, hB.trans (hb2.mono hs1)⟩
end Go.Proofs.YtjaeaanpbdmfgaaDoor
