/-
  PROVED HERE: mix.check tells what is wrong with a history that is to be mixed; mix.Count tells how many orders there are; of what is wrong each gives the error. Old memory stays as it was.
  Conditions: none.
-/
import Derived.Test.YtmjjiehnjghndaaDoorMixEachO
namespace Go.Proofs.YtmjjiehnjghndaaDoor
open Go.RowKit

theorem mcheck_fn (l : List Op3) (ad : Option Addr) (cap : Nat) (w : World) (hI : IsOps w (.slice ad l.length cap) l) :
    Calls Tryd.prog 24 #[.slice ad l.length cap] w fun e w' => e = .returned (errV (mixE l)) ∧ Below w.heap.size w w' := by
  have HC := hid_mm (check_v l _ w hI)
  obtain ⟨n, hn⟩ : ∃ n, l.length = n := ⟨_, rfl⟩
  obtain ⟨c, hc⟩ : ∃ c, (chk l).2 = c := ⟨_, rfl⟩
  have HE : Hid (mixE l = if c ≠ 0 then c else if 8 < n then 4 else 0) := by show _ = _; unfold mixE; rw [hc, hn]
  rw [hc, hn] at HC
  rw [hn]
  clear hI hn hc
  go_enter Tryd.func24, Tryd.ntmps24
  go_wp2_with fail
  refine HC.out.mono ?_
  rintro e w1 ⟨rfl, hb1⟩
  have HB1 := hid_mm hb1
  clear hb1 HC
  by_cases hz : c = 0
  · subst hz
    rw [errV_zero]
    by_cases h8 : 8 < n
    · have h8' : (8 : Int) < (n : Int) := by omega
      have HQ : Hid (mixE l = 4) := by show _ = _; rw [HE.out, if_neg (by simp), if_pos h8]
      clear HE h8
      go_wp2_with fail
      go_ret
      exact ⟨by rw [HQ.out, errV_ne (by decide)]; rfl, HB1.out⟩
    · have h8' : ¬ (8 : Int) < (n : Int) := by omega
      have HQ : Hid (mixE l = 0) := by show _ = _; rw [HE.out, if_neg (by simp), if_neg h8]
      clear HE h8
      go_wp2_with fail
      go_ret
      exact ⟨by rw [HQ.out, errV_zero]; rfl, HB1.out⟩
  · have HQ : Hid (mixE l = c) := by show _ = _; rw [HE.out, if_pos hz]
    rw [errV_ne hz]
    have HZ := hid_mm hz
    clear HE hz
    go_wp2_with fail
    go_ret
    exact ⟨by rw [HQ.out, errV_ne HZ.out]; rfl, HB1.out⟩
def cntSt (f : List Op3 → Bool) : Nat → List Op3 → Nat × Bool := fun n x => (if f x = true then n + 1 else n, true)
theorem goO_count (f : List Op3 → Bool) : ∀ (l : List (List Op3)) (n : Nat), goO (cntSt f) l n = (n + (l.filter f).length, true) := by
  intro l
  induction l with
  | nil => intro n; rfl
  | cons x r ih =>
    intro n
    rw [goO, if_pos (show (cntSt f n x).2 = true from rfl), ih]
    by_cases h : f x = true
    · simp [cntSt, h]; omega
    · simp [cntSt, h]
/-- How many so far, in memory. -/
structure CntAt (pf pn M : Nat) (n : Nat) (w : World) : Prop where
  so : w.cell? ⟨pf, 0, none⟩ = some (.func (.func M) #[] #[])
  num : w.cell? ⟨pn, 0, none⟩ = some (.int .i64 (IntKind.i64.wrap n))
  thaw : w.frozen? ⟨pn, 0, none⟩ = false
theorem wrap_next (n : Nat) : IntKind.i64.wrap (IntKind.i64.wrap (n : Int) + 1) = IntKind.i64.wrap ((n + 1 : Nat) : Int) := by
  simp only [IntKind.wrap_i64]; omega
theorem wrap_few {n : Nat} (h : n ≤ 4611686018427387904) : IntKind.i64.wrap (n : Int) = n := by rw [IntKind.wrap_i64]; omega
/-- What a closure that is asked of an order is to answer. -/
def SoC (f : List Op3 → Bool) (hl M : Nat) : Prop := ∀ (x : List Op3) (q : Nat) (w : World), (chk x).2 = 0 → x.length = hl → IsOps w (.slice (some ⟨q, 0, none⟩) x.length hl) x →
  Calls Tryd.prog M #[.slice (some ⟨q, 0, none⟩) x.length hl] w fun e w' => e = .returned (.bool (f x)) ∧ Below w.heap.size w w'
theorem take_count {f : List Op3 → Bool} {hl M pf pn : Nat} (hcall : ∀ (args : Array Value) (W : World), (callFunc M args).run Tryd.prog W = .ok (.enter M args) W) (hso : SoC f hl M) (hne : pf ≠ pn) :
    TakeOk (cntSt f) (CntAt pf pn M) (fun _ => True) (fun k => k = pf ∨ k = pn) (fun x => (chk x).2 = 0) hl 34 #[.pointer (some ⟨pf, 0, none⟩), .pointer (some ⟨pn, 0, none⟩)] where
  call := fun _ _ => by kernel_rfl
  on := fun _ _ _ => trivial
  keep := fun s w w' A _ h ht hA => ⟨ht.cell h.so (hA _ (.inl rfl)), ht.cell h.num (hA _ (.inr rfl)), (ht.thaw (p := ⟨pn, 0, none⟩) (World.block_lt_of_cell? w _ h.num) (hA _ (.inr rfl))).trans h.thaw⟩
  says := by
    intro n x q w _ hI hG hx hop
    have HCA := hid_mm (hso x q w hG hx hop)
    have HI := hid_mm hI
    have c0 := hI.so
    have c1 := hI.num
    obtain ⟨xl, hxl⟩ : ∃ n, x.length = n := ⟨_, rfl⟩
    rw [hxl] at HCA ⊢
    obtain ⟨b, hb⟩ : ∃ b, f x = b := ⟨_, rfl⟩
    rw [hb] at HCA
    have HST : Hid (cntSt f n x = (if b = true then n + 1 else n, true)) := by show _ = _; unfold cntSt; rw [hb]
    rw [HST.out]
    clear hI hG hx hop hxl hb HST
    show Calls Tryd.prog 34 #[.slice (some ⟨q, 0, none⟩) xl hl, .pointer (some ⟨pf, 0, none⟩), .pointer (some ⟨pn, 0, none⟩)] w _
    go_enter Tryd.func34, Tryd.ntmps34
    go_wp2_with fail
    refine HCA.out.mono ?_
    rintro e w1 ⟨rfl, hb1⟩
    have hn := (hb1.cell (p := ⟨pn, 0, none⟩) (World.block_lt_of_cell? w _ c1)).trans c1
    have hs := (hb1.cell (p := ⟨pf, 0, none⟩) (World.block_lt_of_cell? w _ c0)).trans c0
    have hz := (hb1.frozen (p := ⟨pn, 0, none⟩) (World.block_lt_of_cell? w _ c1)).trans HI.out.thaw
    have HT : Hid (TurnM (fun k => k = pf ∨ k = pn) w w1) := TurnM.below hb1
    have HS := hid_mm hs
    have HN := hid_mm hn
    have HZ := hid_mm hz
    clear c0 c1 hb1 hs HCA
    cases b with
    | false =>
      go_wp2_with fail
      go_ret
      exact ⟨rfl, ⟨HS.out, HN.out, HZ.out⟩, HT.out⟩
    | true =>
      obtain ⟨v, hv⟩ : ∃ v, IntKind.i64.wrap (n : Int) = v := ⟨_, rfl⟩
      have HV : Hid (IntKind.i64.wrap (v + 1) = IntKind.i64.wrap ((n + 1 : Nat) : Int)) := by show _ = _; rw [← hv]; exact wrap_next n
      rw [hv] at hn
      clear hv
      go_wp2_with fail
      go_ret
      refine ⟨rfl, ⟨?_, ?_, ?_⟩, HT.out.set (p := ⟨pn, 0, none⟩) (.inr rfl) _⟩
      · rw [World.cell?_setCell_other _ _ _ _ (by intro e; injection e with e1; omega)]; exact HS.out
      · rw [World.cell?_setCell_same _ _ _ hn]; exact congrArg (fun z => some (Value.int .i64 z)) ((show wrap64 (v + 1) = IntKind.i64.wrap (v + 1) by simp only [wrap64, IntKind.wrap_i64]).trans HV.out)
      · rw [World.frozen?_setCell]; exact HZ.out
set_option maxHeartbeats 2000000 in
theorem count_those {f : List Op3 → Bool} {M : Nat} (l : List Op3) (ad : Option Addr) (cap : Nat) (w : World) (hcall : ∀ (args : Array Value) (W : World), (callFunc M args).run Tryd.prog W = .ok (.enter M args) W) (hso : SoC f l.length M)
    (hI : IsOps w (.slice ad l.length cap) l) :
    Calls Tryd.prog 20 #[.slice ad l.length cap, .func (.func M) #[] #[]] w fun e w' => e = .returned (.tuple #[.int .i64 ((mixM l).filter f).length, errV (mixE l)]) ∧ Below w.heap.size w w' := by
  have HI := hid_mm hI
  have HSO := hid_mm hso
  have HCL := hid_mm hcall
  obtain ⟨n, hn⟩ : ∃ n, l.length = n := ⟨_, rfl⟩
  have HN := hid_mm hn
  rw [hn] at HI HSO ⊢
  clear hI hso hcall hn
  go_enter Tryd.func20, Tryd.ntmps20
  go_upto_region 1 with (fail)
  obtain ⟨W, hW⟩ : ∃ X, X = w.alloc (.cells #[.func (.func M) #[] #[]] 48) := ⟨_, rfl⟩
  obtain ⟨pf, hpf⟩ : ∃ p, p = w.heap.size := ⟨_, rfl⟩
  rw [← hW, ← hpf]
  have hbW : Below w.heap.size w W := by rw [hW]; exact (Below.refl _ w).alloc (Nat.le_refl _) _
  have c0 : W.cell? ⟨pf, 0, none⟩ = some (.func (.func M) #[] #[]) := by rw [hW, hpf]; simp
  have HBW := hid_mm hbW
  have HPF := hid_mm hpf
  have HC0 := hid_mm c0
  have hck := mcheck_fn l ad cap W (by rw [HN.out]; exact HI.out.below hbW (Nat.le_refl _))
  rw [HN.out] at hck
  have HCK := hid_mm hck
  clear hW hpf hbW c0 hck
  go_wp2_with fail
  refine HCK.out.mono ?_
  rintro e w1 ⟨rfl, hb1⟩
  have HB1 := hid_mm hb1
  clear hb1 HCK
  by_cases hz : mixE l = 0
  · have HZ := hid_mm hz
    obtain ⟨hch, hl8⟩ := mixE_zero hz
    have HCH := hid_mm hch
    have HL8 := hid_mm hl8
    rw [hz, errV_zero]
    clear hz hch hl8
    go_upto_region 5 with (fail)
    obtain ⟨pn, hpn⟩ : ∃ p, p = w1.heap.size := ⟨_, rfl⟩
    obtain ⟨V, hV⟩ : ∃ X, X = w1.alloc (.cells #[.int .i64 0] 3) := ⟨_, rfl⟩
    rw [← hV, ← hpn]
    have hbV : Below w1.heap.size w1 V := by rw [hV]; exact (Below.refl _ w1).alloc (Nat.le_refl _) _
    have hbw : Below w.heap.size w V := (HBW.out.trans (HB1.out.mono HBW.out.size)).trans (hbV.mono (Nat.le_trans HBW.out.size HB1.out.size))
    have hp := HPF.out
    have hfl : pf < W.heap.size := World.block_lt_of_cell? W _ HC0.out
    have hs1 := HB1.out.size
    have c0 : V.cell? ⟨pf, 0, none⟩ = some (.func (.func M) #[] #[]) := (hbV.cell (p := ⟨pf, 0, none⟩) (by show pf < w1.heap.size; omega)).trans ((HB1.out.cell (p := ⟨pf, 0, none⟩) hfl).trans HC0.out)
    have c1 : V.cell? ⟨pn, 0, none⟩ = some (.int .i64 0) := by rw [hV, hpn]; simp
    have z1 : V.frozen? ⟨pn, 0, none⟩ = false := by rw [hV, hpn]; simp
    have hsV : V.heap.size = pn + 1 := by rw [hV, hpn]; simp
    have hso' : SoC f l.length M := by rw [HN.out]; exact HSO.out
    have heach := each_anyM (st := cntSt f) (I := CntAt pf pn M) (L := fun _ => True) (T := fun k => k = pf ∨ k = pn) (G := fun x => (chk x).2 = 0) l ad cap 0 V (take_count (pf := pf) (pn := pn) HCL.out hso' (by omega)) (by rw [HN.out]; exact HI.out.below hbw (Nat.le_refl _)) (chk_deal HCH.out) HL8.out (fun k hk => by omega) trivial ⟨c0, c1, z1⟩ (fun y hy => mix_chk HCH.out hy)
    rw [goO_count, HN.out] at heach
    have HEA := hid_mm heach
    have HBV := hid_mm hbw
    have HLO : Hid (w.heap.size ≤ pf ∧ w.heap.size ≤ pn) := by have := HBW.out.size; exact ⟨by omega, by omega⟩
    clear hV hpn hbV hbw hp hfl hs1 c0 c1 z1 hsV hso' heach
    go_wp2_with fail
    refine HEA.out.mono ?_
    rintro e w3 ⟨rfl, hI3, ht3⟩
    have c3 := hI3.num
    have HT3 := hid_mm ht3
    have HW3 : Hid (IntKind.i64.wrap ((0 + ((mixL l).filter f).length : Nat) : Int) = (((mixM l).filter f).length : Int)) := by
      show _ = _
      unfold mixM
      rw [if_pos HZ.out, Nat.zero_add]
      refine wrap_few ?_
      have h1 := List.length_filter_le f (mixL l)
      have h2 := mixG_bound l.length (rowsL l)
      have h3 : 6 ^ l.length ≤ 6 ^ 8 := Nat.pow_le_pow_right (by decide) HL8.out
      have h4 : (6 : Nat) ^ 8 = 1679616 := by decide
      unfold mixL at h1 ⊢
      omega
    rw [HW3.out] at c3
    clear hI3 ht3 HEA HW3
    go_wp2_with fail
    go_ret2
    refine ⟨by rw [HZ.out]; rfl, HBV.out.trans ⟨HT3.out.os, HT3.out.tape, HT3.out.output, HT3.out.size, fun k hk => HT3.out.block k (by have := HBV.out.size; omega) (fun e => ?_)⟩⟩
    have := HLO.out
    omega
  · have HQ : Hid (((mixM l).filter f).length = 0) := by show _ = _; unfold mixM; rw [if_neg hz]; rfl
    obtain ⟨c, hc⟩ : ∃ c, mixE l = c := ⟨_, rfl⟩
    rw [hc] at hz
    have HC := hid_mm hc
    have HZ := hid_mm hz
    rw [hc, errV_ne hz]
    clear hc hz
    go_wp2_with fail
    go_ret2
    exact ⟨by rw [HQ.out, HC.out, errV_ne HZ.out]; rfl, HBW.out.trans (HB1.out.mono HBW.out.size)⟩
theorem count1_fn (hl : Nat) : SoC (fun _ => true) hl 19 := by
  intro x q w _ _ _
  go_enter Tryd.func19, Tryd.ntmps19
  go_wp2_with fail
  go_ret
  exact ⟨rfl, Below.refl _ _⟩
theorem mCountC : MCountC := by
  intro l ad cap w hI _
  have hct := count_those (f := fun _ => true) (M := 19) l ad cap w (fun _ _ => by kernel_rfl) (count1_fn _) hI
  rw [show (mixM l).filter (fun _ => true) = mixM l from List.filter_eq_self.2 fun _ _ => rfl] at hct
  have HCT := hid_mm hct
  clear hct hI
  go_enter Tryd.func7, Tryd.ntmps7
  go_wp2_with fail
  refine HCT.out.mono ?_
  rintro e w1 ⟨rfl, hb1⟩
  have HB1 := hid_mm hb1
  clear hb1 HCT
  go_wp2_with fail
  go_ret2
  exact ⟨rfl, HB1.out⟩
end Go.Proofs.YtmjjiehnjghndaaDoor
