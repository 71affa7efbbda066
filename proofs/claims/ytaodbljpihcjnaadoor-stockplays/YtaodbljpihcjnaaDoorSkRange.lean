/-
  PROVED HERE: package stock's Range: a loop over the map of what was asked, in whichever order, sums what is to be taken and what is to be added.
  Conditions: none.
-/
import Derived.Test.YtaodbljpihcjnaaDoorSkMem
import Derived.BigQuiet
import Derived.Deep.Cut
import Derived.OwnWalk
namespace Go.Proofs.YtaodbljpihcjnaaDoor
open Go.RowKit
open Go.Maps (Keyed)

/-- What has come so far of what was asked. -/
def gone (f : Int → Int) (left : Lit → Bool) : Int → Int := fun t => if left (.int .i64 t) = true then 0 else f t
theorem gone_step (f : Int → Int) (left : Lit → Bool) {x : Int} (hx : Wf x) : gone f (fun z => left z && !z.sameKey (.int .i64 x)) = putK (gone f left) x (f x) := by
  funext t
  unfold gone putK
  by_cases e : t = x
  · subst e
    rw [if_pos rfl]
    show (if (left (.int .i64 t) && !(Lit.int .i64 t).sameKey (.int .i64 t)) = true then 0 else f t) = f t
    rw [WideAt.sameKey_self (key_lit hx)]
    simp
  · rw [if_neg e]
    show (if (left (.int .i64 t) && !(Lit.int .i64 t).sameKey (.int .i64 x)) = true then 0 else f t) = if left (.int .i64 t) = true then 0 else f t
    cases hs : (Lit.int .i64 t).sameKey (.int .i64 x) with
    | true =>
      have h1 := WideAt.sameKey_eq hs
      injection h1 with _ h2
      exact absurd h2 e
    | false => rw [Bool.not_false, Bool.and_true]
theorem gone_sum (f : Int → Int) (left : Lit → Bool) {x : Int} (h1 : 1 ≤ x) (h6 : x ≤ 6) (hl : left (.int .i64 x) = true) : sumS (gone f (fun z => left z && !z.sameKey (.int .i64 x))) = sumS (gone f left) + f x := by
  rw [gone_step _ _ (wf_deal h1 h6), sumS_set _ h1 h6]
  have : gone f left x = 0 := if_pos hl
  omega
theorem gone_all (f : Int → Int) {left : Lit → Bool} (h : ∀ kl, left kl = false) : gone f left = f := by
  funext t
  exact if_neg (by rw [h]; decide)
theorem gone_ge {f : Int → Int} (hf : ∀ t, 0 ≤ f t) (left : Lit → Bool) : 0 ≤ sumS (gone f left) := sumS_pos fun t => by
  unfold gone
  split
  · exact Int.le_refl _
  · exact hf t
theorem gone_le {f : Int → Int} (hf : ∀ t, 0 ≤ f t) (left : Lit → Bool) : sumS (gone f left) ≤ sumS f := by
  have h : ∀ t, gone f left t ≤ f t := fun t => by
    unfold gone
    split
    · exact hf t
    · exact Int.le_refl _
  have := h 1; have := h 2; have := h 3; have := h 4; have := h 5; have := h 6
  unfold sumS
  omega
/-- The step of a loop over the map of what was asked. -/
theorem wp_next_ask (w : World) {ops : Array Oper} {rest : List Oper} {o : Oper} {a : Act} {Q : Exit → Act → World → Prop} (hg : o.guard = none) (it : Operand) (hop : o.op = Op.next it false) (b r n : Nat) (D : DataW Value) (left : Lit → Bool) (cnt : Nat) (s : Stk)
    (hit : a.eval it = .pointer (some ⟨r, 0, none⟩)) (h : w.ranges Tryd.prog 3 heldElem b r n D left cnt) (hh : ∀ x, Wf x → Maps.has D (.int .i64 x) = (askF s x).isSome) (hat : ∀ x v, Wf x → askF s x = some v → ∀ z, D.atKey (.int .i64 x) z = .held v)
    (hDone : cnt = 0 → (∀ kl, left kl = false) → wpList Tryd.prog ops Q rest (a.put o.dst (.tuple #[.bool false])) w)
    (hMore : ∀ (x : Int) (w' : World) (cnt' : Nat), 1 ≤ x → x ≤ 6 → left (.int .i64 x) = true → w'.ranges Tryd.prog 3 heldElem b r n D (fun z => left z && !z.sameKey (.int .i64 x)) cnt' → cnt' < cnt →
      w.grownBy w' (some r) → w'.heap.size = w.heap.size → (Instr.entry (.pointer (some ⟨r, 0, none⟩))).run Tryd.prog w' = .ok (.tuple #[.int .i64 x, .agg #[.int .i64 (s.add x), .int .i64 (s.take x)]]) w' → wpList Tryd.prog ops Q rest (a.put o.dst (.tuple #[.bool true, .int .i64 x, .agg #[.int .i64 (s.add x), .int .i64 (s.take x)]])) w') :
    wpList Tryd.prog ops Q (o :: rest) a w := by
  refine wpList_next_ranges (α := Int) (β := Value) w hg it hop 3 KI heldElem (Value.int .i64) id (fun key kl hkey => by obtain ⟨x, rfl, _⟩ := Maps.keyOf_int_inv Tryd.underlying3 hkey; exact ⟨x, rfl⟩) (fun v y _ => ⟨v, rfl⟩) b r n D left cnt hit h hDone ?_
  intro x c kl y w' cnt' hkey hlk hv hat2 hrg hlt hgr hsz hen
  obtain ⟨x', ex, rfl, hwx⟩ := Maps.keyOf_int_inv Tryd.underlying3 hkey
  cases ex
  have hy : y.1 = .held c := by simp only [heldElem, id, Option.some.injEq] at hv; rw [← hv]
  have hhas := Maps.has_true_of_atKey hat2
  rw [hh x hwx] at hhas
  obtain ⟨u, hu⟩ := Option.isSome_iff_exists.1 hhas
  have hc : c = u := by
    have h1 := hat2 (.held c)
    rw [hat x u hwx hu, hy] at h1
    exact (DataW.held.inj h1).symm
  subst hc
  obtain ⟨x1, x6⟩ := askF_in hhas
  rw [show id c = .agg #[.int .i64 (s.add x), .int .i64 (s.take x)] from askF_some hu] at hen ⊢
  exact hMore x w' cnt' x1 x6 hlk hrg hlt hgr hsz hen
set_option maxHeartbeats 8000000 in
set_option maxRecDepth 100000 in
theorem range_sk {w : World} {p M : Nat} {s : Stk} (h : SkIs w p M s) (hok : StkOk s) : Calls Tryd.prog 9 #[ptK p] w fun e w' => e = .returned (.tuple #[.int .i64 (lowK s), .int .i64 (highK s)]) ∧ Below w.heap.size w w' := by
  have c0 := h.blk.now
  have c1 := h.blk.asked
  have hlo : 0 ≤ s.now - sumS s.take := hok.low
  have hhi : s.now + sumS s.add ≤ 1000000 := hok.high
  have HA := hid_k hok.add
  have HT := hid_k hok.take
  obtain ⟨m, D, hD1, hD2, hD3, hD4, hD5⟩ := h.map
  have HD1 := hid_k hD1
  have HD3 := hid_k (And.intro hD3 hD4)
  have HS0 : Hid (sumS (gone s.take (Maps.has D)) = 0 ∧ sumS (gone s.add (Maps.has D)) = 0) := by
    have hz : ∀ t, 1 ≤ t → t ≤ 6 → gone s.take (Maps.has D) t = 0 ∧ gone s.add (Maps.has D) t = 0 := fun t t1 t6 => by
      unfold gone
      rw [hD3 t (wf_deal t1 t6)]
      cases ha : (askF s t).isSome with
      | true => exact ⟨if_pos rfl, if_pos rfl⟩
      | false =>
        obtain ⟨a1, a2⟩ := askF_none t1 t6 ha
        exact ⟨a2, a1⟩
    exact ⟨sumS_zero fun t t1 t6 => (hz t t1 t6).1, sumS_zero fun t t1 t6 => (hz t t1 t6).2⟩
  have hTp := sumS_pos hok.take
  have hAp := sumS_pos hok.add
  show Calls Tryd.prog 9 #[ptK p] w fun e w' => e = .returned (.tuple #[.int .i64 (s.now - sumS s.take), .int .i64 (s.now + sumS s.add)]) ∧ Below w.heap.size w w'
  obtain ⟨N, hN⟩ : ∃ N, s.now = N := ⟨_, rfl⟩
  obtain ⟨T, hT⟩ : ∃ T, sumS s.take = T := ⟨_, rfl⟩
  obtain ⟨A, hA⟩ : ∃ A, sumS s.add = A := ⟨_, rfl⟩
  rw [hN] at c0
  rw [hN, hT] at hlo
  rw [hN, hA] at hhi
  rw [hT] at hTp
  rw [hA] at hAp
  rw [hN, hT, hA]
  have HLE : Hid (∀ left, 0 ≤ sumS (gone s.take left) ∧ sumS (gone s.take left) ≤ T ∧ 0 ≤ sumS (gone s.add left) ∧ sumS (gone s.add left) ≤ A) := fun left => ⟨gone_ge HT.out left, hT ▸ gone_le HT.out left, gone_ge HA.out left, hA ▸ gone_le HA.out left⟩
  have HEND : Hid (∀ left : Lit → Bool, (∀ kl, left kl = false) → sumS (gone s.take left) = T ∧ sumS (gone s.add left) = A) := fun left hl => by rw [gone_all _ hl, gone_all _ hl]; exact ⟨hT, hA⟩
  have hMlt : M < w.heap.size := h.ltM
  unfold ptK
  clear hok h hD1 hD2 hD3 hD4 hD5 hT hA hN
  go_enter Tryd.func9, Tryd.ntmps9
  go_upto_region 1 with fail
  go_quiet (fail)
  go_wp2_with (at_range; refine wpList_range_own _ rfl (.tmp 19) 42 rfl 3 47 KI Tryd.underlying42 heldElem M m D rfl HD1.out ?_; intro w2 hrg2 hg2 hs2)
  have ht2 : Turns (fun _ => False) (w.drewN nq) w2 := (Turns.refl _ _).grown hg2 fun k hk => by cases hk
  have HB2 : Hid (Below w.heap.size w w2) := (below_drewN (Below.refl _ w) nq).trans (ht2.below (B := w.heap.size) (Nat.le_refl _) (fun _ _ hf => hf))
  have HST : Hid (∃ (left : Lit → Bool) (cnt : Nat), w2.ranges Tryd.prog 3 heldElem M w.heap.size m D left cnt ∧ Value.int .i64 N = .int .i64 (N - sumS (gone s.take left)) ∧ Value.int .i64 N = .int .i64 (N + sumS (gone s.add left))) :=
    ⟨_, _, hrg2, by rw [HS0.out.1, Int.sub_zero], by rw [HS0.out.2, Int.add_zero]⟩
  have hI0 : ∃ I, I = w.heap.size := ⟨_, rfl⟩
  obtain ⟨I, hI⟩ := hI0
  rw [show (w.drewN nq).heap.size = I from hI.symm]
  rw [← hI] at HST hMlt
  have HII := hid_k hI
  clear hrg2 hg2 hs2 ht2 hI c0 c1
  go_frame
  go_loopw [4, 5] (fun v4 v5 wr => ∃ (left : Lit → Bool) (cnt : Nat), wr.ranges Tryd.prog 3 heldElem M I m D left cnt ∧ v4 = .int .i64 (N - sumS (gone s.take left)) ∧ v5 = .int .i64 (N + sumS (gone s.add left)) ∧ Below w.heap.size w wr) (fun _ _ wr => wr.rangeLeft M I)
  case atStart =>
    obtain ⟨left, cnt, h1, h2, h3⟩ := HST.out
    exact ⟨left, cnt, h1, h2, h3, HB2.out⟩
  case round =>
    obtain ⟨left, cnt, hrg, rfl, rfl, hbel⟩ := hrel
    have HRG := hid_k hrg
    have HBE := hid_k hbel
    obtain ⟨a1, a2, a3, a4⟩ := HLE.out left
    have HE := hid_k (HEND.out left)
    have HGS := hid_k (fun x h1 h6 hl => gone_sum s.take left (x := x) h1 h6 hl)
    have HGA := hid_k (fun x h1 h6 hl => gone_sum s.add left (x := x) h1 h6 hl)
    obtain ⟨P, hP⟩ : ∃ P, sumS (gone s.take left) = P := ⟨_, rfl⟩
    obtain ⟨R, hR⟩ : ∃ R, sumS (gone s.add left) = R := ⟨_, rfl⟩
    rw [hP] at a1 a2 HE HGS
    rw [hR] at a3 a4 HE HGA
    rw [hP, hR]
    clear hrg hbel HST HB2 hP hR
    go_wp2_with (at_next; refine wp_next_ask _ rfl (.tmp 20) rfl M I m D left cnt s rfl HRG.out HD3.out.1 HD3.out.2 ?_ ?_)
    · intro hc0 hl0
      obtain ⟨rfl, rfl⟩ := HE.out hl0
      clear hc0 hl0
      go_wp2_with fail
      go_ret2
      exact ⟨rfl, HBE.out⟩
    · intro x w3 cnt3 x1 x6 hlx hrg3 hlt3 hg3 hs3 hen3
      have ht3 : Turns (fun j => j = I) wr w3 := (Turns.refl _ wr).grown hg3 fun j hj => .inl (Option.some.inj hj).symm
      have HB3 : Hid (Below w.heap.size w w3) := by
        have h1 : ¬ I < w.heap.size := by have := HII.out; omega
        exact HBE.out.trans (ht3.below HBE.out.size fun j hj e => h1 (e ▸ hj))
      have HR3 := hid_k hrg3
      have HLE3 := hid_k HRG.out.left_eq
      have g1 := HGS.out x x1 x6 hlx
      have g2 := HGA.out x x1 x6 hlx
      obtain ⟨b1, b2, b3, b4⟩ := HLE.out fun z => left z && !z.sameKey (Lit.int .i64 x)
      have HG1 := hid_k g1
      have HG2 := hid_k g2
      rw [g1] at b1 b2
      rw [g2] at b3 b4
      have t0 := HT.out x
      have u0 := HA.out x
      obtain ⟨tx, htx⟩ : ∃ q, s.take x = q := ⟨_, rfl⟩
      obtain ⟨ux, hux⟩ : ∃ q, s.add x = q := ⟨_, rfl⟩
      rw [htx] at HG1 b1 b2 t0
      rw [hux] at HG2 b3 b4 u0
      rw [htx, hux] at hen3 ⊢
      clear hlx hrg3 ht3 hg3 g1 g2 htx hux
      go_wp2_with fail
      go_roundw
      case rel => exact ⟨_, cnt3, HR3.out.alloc _, by rw [HG1.out]; go_num, by rw [HG2.out]; go_num, HB3.out.alloc HB3.out.size _⟩
      case measure => rw [(HR3.out.alloc _).left_eq, HLE3.out]; exact hlt3
end Go.Proofs.YtaodbljpihcjnaaDoor
