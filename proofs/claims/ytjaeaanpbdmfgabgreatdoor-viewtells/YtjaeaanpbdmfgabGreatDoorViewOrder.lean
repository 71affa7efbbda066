/-
  PROVED HERE: view.Order gives the first order by numbers along which what is done looks the same, ErrNone where there is none, and of a wrong list Check's error. Old memory stays as it was.
  Conditions: none.
-/
import Derived.Test.YtjaeaanpbdmfgabGreatDoorViewGrow
import Derived.Test.YtjaeaanpbdmfgabGreatDoorViewNames
import Derived.Test.YtjaeaanpbdmfgabGreatDoorAlongPlain
import Derived.Test.YtjaeaanpbdmfgabGreatDoorSerSerial
namespace Go.Proofs.YtjaeaanpbdmfgabGreatDoor
open Go.RowKit Go.Maps

theorem vstore_func {P : Program} (w : World) (f : Fn) (ts cs : Array Value) (old : Value) (T : TypeId) (n : Nat) (hn : n = w.heap.size) :
    (store ⟨n, 0, none⟩ (.func f ts cs)).run P (w.alloc (.cells #[old] T)) = .ok () (w.alloc (.cells #[.func f ts cs] T)) := by
  subst hn
  rw [run_store _ _ _ _ _ rfl]
  simp [World.setCell_alloc_new]
/-- Memory as view.firstOrder has it when it begins to try. -/
theorem first_start (dv sv : Value) (w : World) : TryAt ((((w.alloc (.cells #[dv] 23)).alloc (.cells #[sv] 86)).alloc (.cells #[.slice none 0 0] 23)).alloc (.cells #[.func (.func 78) #[] #[.pointer (some ⟨w.heap.size + 1 + 1, 0, none⟩), .pointer (some ⟨w.heap.size, 0, none⟩), .pointer (some ⟨w.heap.size + 1, 0, none⟩), .pointer (some ⟨w.heap.size + 1 + 1 + 1, 0, none⟩)]] 119)) (w.heap.size + 1 + 1) w.heap.size (w.heap.size + 1) (w.heap.size + 1 + 1 + 1) (w.heap.size + 4) dv sv (.slice none 0 0) [] ∧ Below w.heap.size w ((((w.alloc (.cells #[dv] 23)).alloc (.cells #[sv] 86)).alloc (.cells #[.slice none 0 0] 23)).alloc (.cells #[.func (.func 78) #[] #[.pointer (some ⟨w.heap.size + 1 + 1, 0, none⟩), .pointer (some ⟨w.heap.size, 0, none⟩), .pointer (some ⟨w.heap.size + 1, 0, none⟩), .pointer (some ⟨w.heap.size + 1 + 1 + 1, 0, none⟩)]] 119)) := by
  refine ⟨⟨?_, ?_, World.ownsRow_nil _ _ _ _, ?_, ?_, ?_, ⟨by omega, by omega, by omega, by omega, by simp⟩, by omega, by omega, by omega⟩, ((((Below.refl _ w).alloc (Nat.le_refl _) _).alloc (by simp) _).alloc (by simp; omega) _).alloc (by simp; omega) _⟩
  · rw [World.cell?_alloc_past _ _ _ (by simp), World.cell?_alloc_at _ _ _ _ (by simp)]; rfl
  · rw [World.frozen?_alloc_past _ _ _ (by simp), World.frozen?_alloc_at _ _ _ _ (by simp)]
  · rw [World.cell?_alloc_past _ _ _ (by simp; omega), World.cell?_alloc_past _ _ _ (by simp; omega), World.cell?_alloc_past _ _ _ (by simp), World.cell?_alloc_at _ _ _ _ rfl]; rfl
  · rw [World.cell?_alloc_past _ _ _ (by simp), World.cell?_alloc_past _ _ _ (by simp), World.cell?_alloc_at _ _ _ _ (by simp)]; rfl
  · rw [World.cell?_alloc_at _ _ _ _ (by simp)]; rfl

set_option maxHeartbeats 4000000 in
theorem first_any (ds : List Int) (dv : Value) (N : Nat) (pa pb : Value) (p : List Int → Bool) (w : World) (hlen : ds.length ≤ 6) (hd : IsInts w dv ds)
    (hcall : ∀ (args : Array Value) (W : World), (callFunc N args).run Tryz.prog W = .ok (.enter N args) W)
    (hsays : ∀ W, Below w.heap.size w W → ∀ ov b, IsInts W ov b → Begun ds b → b.length = ds.length → Calls Tryz.prog N #[ov, pa, pb] W fun e W' => e = .returned (.bool (p b)) ∧ Below W.heap.size W W') :
    Calls Tryz.prog 49 #[dv, .func (.func N) #[] #[pa, pb]] w fun e w' => ∃ (v' : Value) (r : List Int) (ok : Bool), e = .returned (.tuple #[v', .bool ok]) ∧ ((tryO ds p ds.length [] = some r ∧ ok = true) ∨ (tryO ds p ds.length [] = none ∧ r = [] ∧ ok = false)) ∧ IsInts w' v' r ∧ Below w.heap.size w w' := by
  have HD : Hid (∀ W, Below w.heap.size w W → IsInts W dv ds) := fun W hW => hd.below hW (Nat.le_refl _)
  have HSY : Hid (∀ W, Below w.heap.size w W → ∀ ov b, IsInts W ov b → Begun ds b → b.length = ds.length → Calls Tryz.prog N #[ov, pa, pb] W fun e W' => e = .returned (.bool (p b)) ∧ Below W.heap.size W W') := hsays
  have HCL : Hid (∀ (args : Array Value) (W : World), (callFunc N args).run Tryz.prog W = .ok (.enter N args) W) := hcall
  obtain ⟨ad, b0, off, cap, hdv, -⟩ := hd
  subst hdv
  clear hsays hcall
  go_enter Tryz.func49, Tryz.ntmps49
  go_wp2_with fail
  rw [vstore_func _ _ _ _ _ _ _ (by simp)]
  go_wp2_with fail
  have hst := first_start (.slice ad ds.length cap) (.func (.func N) #[] #[pa, pb]) w
  obtain ⟨W0, hW0⟩ : ∃ W0, W0 = ((((w.alloc (.cells #[.slice ad ds.length cap] 23)).alloc (.cells #[.func (.func N) #[] #[pa, pb]] 86)).alloc (.cells #[.slice none 0 0] 23)).alloc (.cells #[.func (.func 78) #[] #[.pointer (some ⟨w.heap.size + 1 + 1, 0, none⟩), .pointer (some ⟨w.heap.size, 0, none⟩), .pointer (some ⟨w.heap.size + 1, 0, none⟩), .pointer (some ⟨w.heap.size + 1 + 1 + 1, 0, none⟩)]] 119)) := ⟨_, rfl⟩
  rw [← hW0] at hst ⊢
  clear hW0
  obtain ⟨hG, hbe⟩ := hst
  have HA : Asks ds (.slice ad ds.length cap) N pa pb p (w.heap.size + 1 + 1) (w.heap.size + 4) W0 := ⟨hlen, fun W hW => HD.out W (hbe.trans (hW.under (by omega) (by omega))), HCL.out, fun W hW => HSY.out W (hbe.trans (hW.under (by omega) (by omega)))⟩
  refine (try_any HA ds.length [] W0 _ (by simp) (Begun.nil ds) hG (Save.refl _ _ _)).mono ?_
  rintro e w1 ⟨⟨v1, r1, hor, hG1⟩, hp1⟩
  have HB : Hid (Below w.heap.size w w1) := hbe.trans (hp1.under (by omega) (by omega))
  have c0 := hG1.order
  have HI : Hid (IsInts w1 v1 r1) := isInts_own hG1.own rfl
  obtain ⟨ad1, cap1, hv1⟩ := own_slice hG1.own
  subst hv1
  clear hG hbe hG1 hp1 HA
  rcases hor with ⟨hs, rfl⟩ | ⟨hs, hr, rfl⟩
  · have HS : Hid (tryO ds p ds.length [] = some r1) := hs
    clear hs
    go_wp2_with fail
    go_ret2
    exact ⟨_, r1, true, rfl, .inl ⟨HS.out, rfl⟩, HI.out, HB.out⟩
  · have HS : Hid (tryO ds p ds.length [] = none ∧ r1 = []) := ⟨hs, hr⟩
    clear hs hr
    go_wp2_with fail
    go_ret2
    exact ⟨_, r1, false, rfl, .inr ⟨HS.out.1, HS.out.2, rfl⟩, HI.out, HB.out⟩
theorem begun_sort {ds b : List Int} (hd : ds.Pairwise (· < ·)) (hB : Begun ds b) (hl : b.length = ds.length) : sortI b = ds := by
  have hp : b.Perm ds := perm_of_sub b ds hB.once hB.all (by omega)
  refine (sort_iff hd).2 ⟨hl, rise_uniq _ _ (putsL_rise b) hd fun x => ?_⟩
  rw [mem_puts]
  exact hp.mem_iff
/-- Of an order: along it what is done looks the same. -/
def looksB (d : List Op3) (o : List Int) : Bool := sightB d (alongL d o)

set_option maxHeartbeats 8000000 in
set_option maxRecDepth 100000 in
theorem isSame_any (d : List Op3) (b : List Int) (ov dv : Value) (pa pb M : Nat) (D : DataW Unit) (w : World) (hc : (chk d).2 = 0) (hdd : doneL d = d) (hs : sortI b = dealsL d) (hO : IsInts w ov b) (hI : IsOps w dv d) (h1 : w.cell? ⟨pa, 0, none⟩ = some dv) (hS : SightAt w pb M (lastF d d.length)) (hL : Looked w M d d.length D) :
    Calls Tryz.prog 47 #[ov, .pointer (some ⟨pa, 0, none⟩), .pointer (some ⟨pb, 0, none⟩)] w fun e w' => e = .returned (.bool (looksB d b)) ∧ Below w.heap.size w w' := by
  have hser := ser_ok d b dv ov w hI hO hc (by rw [hdd]; exact hs)
  rw [hdd] at hser
  have HSER : Hid (Calls Tryz.prog 11 #[dv, ov] w fun e w' => ∃ v', e = .returned (.tuple #[v', .nilIface]) ∧ IsOps w' v' (alongL d b) ∧ Below w.heap.size w w') := hser
  have HC : Hid ((chk d).2 = 0 ∧ (chk (alongL d b)).2 = 0) := ⟨hc, along_chk hc hs⟩
  have HS : Hid (SightAt w pb M (lastF d d.length)) := hS
  have HL : Hid (Looked w M d d.length D) := hL
  have hbl := hS.lt
  have hMl := hL.own.lt
  obtain ⟨ad, b0, off, cap, hdv, -⟩ := hI
  subst hdv
  clear hser hc hs hO hS hL hdd
  go_enter Tryz.func47, Tryz.ntmps47
  go_wp2_with fail
  refine HSER.out.mono ?_
  rintro e w1 ⟨v1, rfl, hI1, hb1⟩
  have HI1 : Hid (IsOps w1 v1 (alongL d b)) := hI1
  clear hI1
  go_wp2_with fail
  refine (nms_ok (alongL d b) _ _ HI1.out HC.out.2).mono ?_
  rintro e w2 ⟨v2, rfl, hN2, hb2⟩
  obtain ⟨ad2, cap2, rfl⟩ := isNames_len hN2
  have HN2 : Hid (IsNames w2 (.slice ad2 (alongL d b).length cap2) (namesTo (alongL d b) (alongL d b).length)) := hN2
  have hb02 := hb1.trans (hb2.mono hb1.size)
  have HS2 : Hid (SightAt w2 pb M (lastF d d.length)) := HS.out.below hb02 hbl
  have HL2 : Hid (Looked w2 M d d.length D) := HL.out.same (hb02.block _ hMl)
  clear hN2 hb1 hb2 HS HL h1
  go_wp2_with (refine wpList_load_row' rfl 83 (.tmp 2) rfl pb rfl 83 (cells29 M (lastF d d.length)) (0, 0) _ HS2.out Tryz.underlying83 rfl (sight_info' _ _) ?_)
  refine (viewIs_any d (alongL d b) M D _ _ (chk_len HC.out.1) (chk_ops HC.out.1) (chk_len HC.out.2) (chk_ops HC.out.2) HL2.out HN2.out).mono ?_
  rintro e w3 ⟨rfl, hb3⟩
  go_wp2_with fail
  go_ret
  exact ⟨rfl, hb02.trans (hb3.mono hb02.size)⟩
theorem order1_call (args : Array Value) (W : World) : (callFunc 47 args).run Tryz.prog W = .ok (.enter 47 args) W := by
  kernel_rfl
/-- The first order along which what is done looks the same. -/
def lookO (d : List Op3) : Option (List Int) := tryO (dealsL d) (looksB d) (dealsL d).length []
theorem vorder_bad (l : List Op3) (v : Value) (w : World) (h : IsOps w v l) (hc : (chk l).2 ≠ 0) :
    Calls Tryz.prog 23 #[v] w fun e w' => e = .returned (.tuple #[.slice none 0 0, .iface 58 (.int .i64 (chk l).2)]) ∧ Below w.heap.size w w' := by
  go_enter Tryz.func23, Tryz.ntmps23
  go_wp2_with (go_at_call 41; refine (done_bad l _ _ h hc).mono ?_; rintro e w1 ⟨rfl, hb1⟩)
  go_ret2
  exact ⟨rfl, hb1.alloc hb1.size _⟩
set_option maxHeartbeats 8000000 in
set_option maxRecDepth 100000 in
theorem vorder_any (l : List Op3) (v : Value) (w : World) (h : IsOps w v l) (hc : (chk l).2 = 0) :
    Calls Tryz.prog 23 #[v] w fun e w' => ((∃ (r : List Int) (v' : Value), lookO (doneL l) = some r ∧ e = .returned (.tuple #[v', .nilIface]) ∧ IsInts w' v' r) ∨ (lookO (doneL l) = none ∧ e = .returned (.tuple #[.slice none 0 0, .iface 58 (.int .i64 5)]))) ∧ Below w.heap.size w w' := by
  have hdn := done_ok l v w h hc
  have hcd := chk_done hc
  have hdd := done_done l
  obtain ⟨d, hd⟩ : ∃ d, doneL l = d := ⟨_, rfl⟩
  rw [hd] at hdn hcd hdd ⊢
  have hl := chk_len hcd
  have HC : Hid ((chk d).2 = 0) := hcd
  have HDD : Hid (doneL d = d) := hdd
  have HDN : Hid (Calls Tryz.prog 41 #[v] w fun e w' => ∃ v', e = .returned (.tuple #[v', .nilIface]) ∧ IsOps w' v' d ∧ Below w.heap.size w w') := hdn
  clear hdn hcd hdd hd h hc
  go_enter Tryz.func23, Tryz.ntmps23
  go_wp2_with fail
  refine HDN.out.mono ?_
  rintro e w1 ⟨v1, rfl, hI1, hb1⟩
  have HI1 : Hid (IsOps w1 v1 d) := hI1
  obtain ⟨ad, b, off, cap, hv1, -⟩ := hI1
  subst hv1
  obtain ⟨W1, hW1⟩ : ∃ W1, W1 = w1.alloc (.cells #[.slice ad d.length cap] 22) := ⟨_, rfl⟩
  have hbW : Below w1.heap.size w1 W1 := by rw [hW1]; exact (Below.refl _ w1).alloc (Nat.le_refl _) _
  have HB1 : Hid (Below w.heap.size w W1) := hb1.trans (hbW.mono hb1.size)
  have HIW : Hid (IsOps W1 (.slice ad d.length cap) d) := HI1.out.below hbW (Nat.le_refl _)
  have c1 : W1.cell? ⟨w1.heap.size, 0, none⟩ = some (.slice ad d.length cap) := by rw [hW1]; simp
  have hl1 : w1.heap.size < W1.heap.size := World.block_lt_of_cell? W1 _ c1
  clear hb1 hbW HI1
  go_upto_region 2 with (fail)
  rw [← hW1]
  clear hW1
  go_wp2_with fail
  refine (deals_ok d _ _ HIW.out HC.out).mono ?_
  rintro e w2 ⟨v2, rfl, hI2, hb2⟩
  have HI2 : Hid (IsInts w2 v2 (dealsL d)) := hI2
  obtain ⟨ad2, b2, off2, cap2, hv2, -⟩ := hI2
  subst hv2
  have c2 : w2.cell? ⟨w1.heap.size, 0, none⟩ = some (.slice ad d.length cap) := (hb2.cell (p := ⟨w1.heap.size, 0, none⟩) hl1).trans c1
  have HIW2 : Hid (IsOps w2 (.slice ad d.length cap) d) := HIW.out.below hb2 (Nat.le_refl _)
  have HB2 : Hid (Below w.heap.size w w2) := HB1.out.trans (hb2.mono HB1.out.size)
  have hl2 : w1.heap.size < w2.heap.size := World.block_lt_of_cell? w2 _ c2
  clear c1 hb2 HB1 HIW hl1
  go_wp2_with fail
  refine (nms_ok d _ _ HIW2.out HC.out).mono ?_
  rintro e w3 ⟨v3, rfl, hN3, hb3⟩
  obtain ⟨ad3, cap3, rfl⟩ := isNames_len hN3
  have HN3 : Hid (IsNames w3 (.slice ad3 d.length cap3) (namesTo d d.length)) := hN3
  have c3 : w3.cell? ⟨w1.heap.size, 0, none⟩ = some (.slice ad d.length cap) := (hb3.cell (p := ⟨w1.heap.size, 0, none⟩) hl2).trans c2
  have HIW3 : Hid (IsOps w3 (.slice ad d.length cap) d) := HIW2.out.below hb3 (Nat.le_refl _)
  have HI3 : Hid (IsInts w3 (.slice ad2 (dealsL d).length cap2) (dealsL d)) := HI2.out.below hb3 (Nat.le_refl _)
  have HB3 : Hid (Below w.heap.size w w3) := HB2.out.trans (hb3.mono HB2.out.size)
  have hl3 : w1.heap.size < w3.heap.size := World.block_lt_of_cell? w3 _ c3
  clear c2 hb3 HB2 HIW2 HI2 hN3 hl2
  go_wp2_with fail
  refine (look_any d _ _ HN3.out hl (chk_ops HC.out)).mono ?_
  rintro e w4 ⟨M, D, rfl, hM, hL4, hb4⟩
  have HF4 : Hid ((w4.alloc (.cells zero29 83)).heap[w4.heap.size]? = some (.cells zero29 83 (0, 0))) := heap_alloc_new _ _
  have c4 : w4.cell? ⟨w1.heap.size, 0, none⟩ = some (.slice ad d.length cap) := (hb4.cell (p := ⟨w1.heap.size, 0, none⟩) hl3).trans c3
  have HIW4 : Hid (IsOps w4 (.slice ad d.length cap) d) := HIW3.out.below hb4 (Nat.le_refl _)
  have HI4 : Hid (IsInts w4 (.slice ad2 (dealsL d).length cap2) (dealsL d)) := HI3.out.below hb4 (Nat.le_refl _)
  have HB4 : Hid (Below w.heap.size w w4) := HB3.out.trans (hb4.mono HB3.out.size)
  have HL4 : Hid (Looked w4 M d d.length D) := hL4
  have hl4 : w1.heap.size < w4.heap.size := World.block_lt_of_cell? w4 _ c4
  clear c3 hb4 HB3 HIW3 HI3 HN3 hL4 hl3 hM
  go_upto_region 11 with (first | refine wpList_store_row rfl 83 (.tmp 8) (.tmp 37) rfl w4.heap.size (cells29 M (lastF d d.length)) rfl rfl 83 zero29 HF4.out (sight_info' _ _) (by rw [cells29_size, zero29_size]) (cells29_one _ _) ?_ | fail)
  refine sight_split w4 _ _ _ rfl ?_
  intro W hSW hBW
  have c5 : W.cell? ⟨w1.heap.size, 0, none⟩ = some (.slice ad d.length cap) := (hBW.cell (p := ⟨w1.heap.size, 0, none⟩) hl4).trans c4
  have HIW5 : Hid (IsOps W (.slice ad d.length cap) d) := HIW4.out.below hBW (Nat.le_refl _)
  have HI5 : Hid (IsInts W (.slice ad2 (dealsL d).length cap2) (dealsL d)) := HI4.out.below hBW (Nat.le_refl _)
  have HB5 : Hid (Below w.heap.size w W) := HB4.out.trans (hBW.mono HB4.out.size)
  have HL5 : Hid (Looked W M d d.length D) := HL4.out.same (hBW.block _ HL4.out.own.lt)
  have HS5 : Hid (SightAt W w4.heap.size M (lastF d d.length)) := hSW
  have hl5 : w1.heap.size < W.heap.size := World.block_lt_of_cell? W _ c5
  have HFO : Hid (Calls Tryz.prog 49 #[.slice ad2 (dealsL d).length cap2, .func (.func 47) #[] #[.pointer (some ⟨w1.heap.size, 0, none⟩), .pointer (some ⟨w4.heap.size, 0, none⟩)]] W fun e w' => ∃ (v' : Value) (r : List Int) (ok : Bool), e = .returned (.tuple #[v', .bool ok]) ∧ ((lookO d = some r ∧ ok = true) ∨ (lookO d = none ∧ r = [] ∧ ok = false)) ∧ IsInts w' v' r ∧ Below W.heap.size W w') := by
    refine first_any (dealsL d) _ _ _ _ (looksB d) W (dealsTo_len d 6) HI5.out order1_call ?_
    intro W' hW' ov bb hO hB hlen
    exact isSame_any d bb ov (.slice ad d.length cap) w1.heap.size w4.heap.size M D W' HC.out HDD.out (begun_sort (dealsL_rise d) hB hlen) hO (HIW5.out.below hW' (Nat.le_refl _)) ((hW'.cell (p := ⟨w1.heap.size, 0, none⟩) hl5).trans c5) (HS5.out.below hW' HS5.out.lt) (HL5.out.same (hW'.block _ HL5.out.own.lt))
  clear hSW hBW HF4 c4 c5 HIW4 HI4 HB4 HL4
  go_wp2_with fail
  refine HFO.out.mono ?_
  rintro e w6 ⟨v6, r, ok, rfl, hor, hI6, hb6⟩
  have HI6 : Hid (IsInts w6 v6 r) := hI6
  have HB6 : Hid (Below w.heap.size w w6) := HB5.out.trans (hb6.mono HB5.out.size)
  clear hI6 hb6
  rcases hor with ⟨hs, rfl⟩ | ⟨hs, -, rfl⟩
  · have HS : Hid (lookO d = some r) := hs
    clear hs
    go_wp2_with fail
    go_ret2
    exact ⟨.inl ⟨r, _, HS.out, rfl, HI6.out⟩, HB6.out⟩
  · have HS : Hid (lookO d = none) := hs
    clear hs
    go_wp2_with fail
    go_ret2
    exact ⟨.inr ⟨HS.out, rfl⟩, HB6.out⟩
end Go.Proofs.YtjaeaanpbdmfgabGreatDoor
