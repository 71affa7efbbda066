/-
  PROVED HERE: plain facts, with no word of the program: of a run by what was when deals began, what is told as seen is as SnapSame asks: from nobody or one that is done; the same again; of two that ran at once no item is written by both.
  Conditions: none.
  PROVED HERE: lanesame.Ops says yes of two slices that hold the same list of ops; nothing turns but the count of draws.
  Conditions: none.
-/
import Derived.Test.YtccjognnehoodafMgap
import Derived.Test.YtccjognnehoodafMgat
import Derived.Test.YtccjognnehoodafMgaw
import Derived.Test.YtccjognnehoodafMgac
import Derived.Deep.QuietTactic
import Derived.BigQuiet
import Derived.WalkSmall
namespace Go.Proofs.Ytccjognnehoodaf

theorem sn_from {l : List Op3} (h : (chk l).2 = 0) : ∀ e ∈ seenL (runK 2 okS l l.length).of (runK 2 okS l l.length).done, e.2.2 = 0 ∨ e.2.2 ∈ (runK 2 okS l l.length).done := by
  intro e he
  unfold seenL at he
  obtain ⟨t, ht, hm⟩ := List.mem_flatMap.1 he
  exact snap_done (.inl rfl) okS_hit h ht hm
theorem again_all {of : Int → Dl} : ∀ ds : List Int, ds.Nodup → (∀ t ∈ ds, (∀ e ∈ (of t).seen, e.1 = t) ∧ (of t).seen.Pairwise fun a b => a.2.1 = b.2.1 → b.2.2 ≠ t → a.2.2 = b.2.2) →
    (seenL of ds).Pairwise fun a b => a.1 = b.1 → a.2.1 = b.2.1 → b.2.2 ≠ b.1 → a.2.2 = b.2.2 := by
  intro ds
  induction ds with
  | nil => intro _ _; exact List.Pairwise.nil
  | cons t r ih =>
    intro hn hd
    rw [List.nodup_cons] at hn
    have h0 := hd t List.mem_cons_self
    have e : seenL of (t :: r) = (of t).seen ++ seenL of r := by unfold seenL; rw [List.flatMap_cons]
    rw [e, List.pairwise_append]
    refine ⟨h0.2.imp_of_mem fun {a b} ha hb hab _ hi hne => hab hi (fun e2 => hne (by rw [e2, h0.1 b hb])), ih hn.2 fun u hu => hd u (List.mem_cons_of_mem _ hu), fun a ha b hb h1 => ?_⟩
    unfold seenL at hb
    obtain ⟨u, hu, hbu⟩ := List.mem_flatMap.1 hb
    have h2 := (hd u (List.mem_cons_of_mem _ hu)).1 b hbu
    rw [h0.1 a ha, h2] at h1
    exact absurd (h1 ▸ hu) hn.1
theorem sn_again {l : List Op3} (h : (chk l).2 = 0) : (seenL (runK 2 okS l l.length).of (runK 2 okS l l.length).done).Pairwise fun a b => a.1 = b.1 → a.2.1 = b.2.1 → b.2.2 ≠ b.1 → a.2.2 = b.2.2 := by
  have hK := run_kOk 2 okS h l.length (Nat.le_refl _)
  have hS := snap_ok (.inl rfl) okS_hit h l.length (Nat.le_refl _)
  exact again_all _ hK.once fun t ht => ⟨hK.txs t (hK.comm t ht).1, hS.again t (hK.comm t ht).1⟩
theorem mem_wr {l : List Op3} {o : Op3} (ho : o ∈ l) (hw : o.2.1 = 2) : o.2.2 ∈ wrL (ofL l o.1) := by
  unfold wrL ofL
  refine List.mem_map.2 ⟨o, List.mem_filter.2 ⟨List.mem_filter.2 ⟨ho, by simp⟩, by simp [hw]⟩, rfl⟩
theorem sn_two {l : List Op3} (h : (chk l).2 = 0) : ∀ e ∈ togL (runK 2 okS l l.length).of (runK 2 okS l l.length).done, ∀ oa ∈ l, ∀ ob ∈ l, oa.1 = e.1 → ob.1 = e.2 → oa.2.1 = 2 → ob.2.1 = 2 → oa.2.2 ≠ ob.2.2 := by
  intro e he oa ha ob hb h1 h2 w1 w2 hi
  unfold togL at he
  have hf := (List.mem_filter.1 he).2
  unfold togB at hf
  simp only [Bool.and_eq_true, decide_eq_true_eq] at hf
  have m1 := mem_wr ha w1
  have m2 := mem_wr hb w2
  rw [h1] at m1
  rw [h2, ← hi] at m2
  exact snap_apart (.inl rfl) okS_hit h (inB_iff.1 hf.1.1) (inB_iff.1 hf.1.2) (by omega) hf.2.2 oa.2.2 ⟨m1, m2⟩
end Go.Proofs.Ytccjognnehoodaf

namespace Go.Proofs.Ytccjognnehoodaf
open Go.RowKit

set_option maxHeartbeats 4000000 in
theorem same_ops (l : List Op3) (v u : Value) (w : World) (hv : IsOps w v l) (hu : IsOps w u l) (hlen : l.length ≤ 140737488351) :
    Calls Try.prog 12 #[v, u] w fun e w' => e = .returned (.bool true) ∧ Below w.heap.size w w' := by
  obtain ⟨ad, b, off, cap, rfl, ha, _, hbB, hops⟩ := hv
  obtain ⟨ad2, b2, off2, cap2, rfl, ha2, _, hbB2, hops2⟩ := hu
  go_enter Try.func12, Try.ntmps12
  go_wp2
  go_loopw [5] (fun v5 wr => ∃ k : Nat, k ≤ l.length ∧ v5 = .int .i64 k ∧ Below w.heap.size w wr) (fun v5 _ => l.length - (intOf v5).toNat)
  case atStart => exact ⟨0, Nat.zero_le _, rfl, Below.refl _ _⟩
  case round =>
    obtain ⟨k, hk, rfl, hbel⟩ := hrel
    by_cases hlt : k < l.length
    · obtain rfl := ha (by omega)
      obtain rfl := ha2 (by omega)
      obtain ⟨c0, c1, c2⟩ := (hops.below hbel hbB) k hlt
      obtain ⟨d0, d1, d2⟩ := (hops2.below hbel hbB2) k hlt
      obtain ⟨⟨t, a, i⟩, ho⟩ : ∃ o : Op3, l.getD k (0, 0, 0) = o := ⟨_, rfl⟩
      rw [ho] at c0 c1 c2 d0 d1 d2
      simp only at c0 c1 c2 d0 d1 d2
      clear ho hops hops2 ha ha2 hbB hbB2
      go_wp2
      go_quiet (fail)
      go_wp2
      go_roundw
      case rel => exact ⟨k + 1, by omega, by go_num, below_drewN hbel _⟩
      case measure => simp [intOf]; omega
    · go_wp2
      go_ret
      exact ⟨rfl, hbel⟩
end Go.Proofs.Ytccjognnehoodaf
