/-
  CONTRACT of the program's ahead: the first way that is where a way comes to. No law is proved here.
  CONTRACT of the program's eachOnce: a list that the call itself made comes back sorted, each number once, in its own memory. No law is proved here.
  CONTRACT of the program's cellsAt. No law is proved here.
-/
import Derived.Test.YtkbfbifepaoojaaGreatDoorZPU14
import Derived.BigQuiet
import Derived.Deep.QuietTactic
import Derived.Shelf.Abstract
import Derived.Test.YtkbfbifepaoojaaGreatDoorZPU01
import Derived.Test.YtkbfbifepaoojaaGreatDoorSortS
import Derived.Sort.OwnSortedInts
import Derived.Lib.OwnBridge
namespace Go.Proofs.YtkbfbifepaoojaaGreatDoor
set_option maxRecDepth 4096
open Go.ChangeShapes Go.WideShapes Go.ChangeAt Go.RowKit

def nxtI : Option Nat → Int
  | some x => (x : Int)
  | none => -1
theorem nxt_first {A B : List Int} {k x : Nat} (h : A[x]? = some (B.getD k 0)) (hb : ∀ (a : Nat) z, a < x → A[a]? = some z → z ≠ B.getD k 0) : nxtV A B k = some x := by
  obtain ⟨hl, he⟩ := List.getElem?_eq_some_iff.1 h
  unfold nxtV
  refine List.findIdx?_eq_some_iff_getElem.2 ⟨hl, decide_eq_true he, fun j hj h2 => ?_⟩
  exact hb j _ hj (List.getElem?_eq_getElem (by omega)) (of_decide_eq_true h2)

set_option maxHeartbeats 2000000 in
/-- The closure: is a way where that one comes to? -/
theorem aheadOne (g c b : Nat) (Ws : List (List Int)) (n k : Nat) (L K : List Int) (x y : Int) (u : Value) (r : Bool) (_ : Ws.length ≤ 2000000) (hLl : L.length ≤ 2000000) (_ : K.length ≤ 2000000) (hx : L[n]? = some x) (hK : Ws[k]? = some K) (hy : K[n + 1]? = some y) (HR : Hid (decide (x = y) = r)) (W : World)
    (hc0 : W.cell? ⟨b, 0, none⟩ = some (.slice (some ⟨g, 0, none⟩) Ws.length c)) (hc1 : W.cell? ⟨b + 1, 0, none⟩ = some (.int .i64 n)) (hc2 : W.cell? ⟨b + 2, 0, none⟩ = some (.int .i64 k)) (hv : WaysAt W (.slice (some ⟨g, 0, none⟩) Ws.length c) Ws) (hu : Ints W u L) (hb : b + 2 < W.heap.size) :
    Calls Tryz.prog 135 #[.agg #[u], .pointer (some ⟨b + 1, 0, none⟩), .pointer (some ⟨b, 0, none⟩), .pointer (some ⟨b + 2, 0, none⟩)] W (Made W (.bool r)) := by
  obtain ⟨g2, ak, _, e, hg, uk, bk, rfl, dk, hIk⟩ := way_at hv hK
  injection e with e1 e2 e3
  injection e1 with e1
  injection e1 with e1
  subst e1
  obtain ⟨au, cu, rfl, HI⟩ := ints_form hu
  obtain ⟨_, _, e, HIK⟩ := ints_form hIk
  injection e with e1 _ e4
  subst e1 e4
  have hn1 : n < L.length := (List.getElem?_eq_some_iff.1 hx).1
  have hn2 : n + 1 < K.length := (List.getElem?_eq_some_iff.1 hy).1
  have hkl : k < Ws.length := (List.getElem?_eq_some_iff.1 hK).1
  rcases HI with h0 | ⟨p, rfl, hp, hpc⟩
  · omega
  · rcases HIK with h0 | ⟨p2, rfl, hp2, hpc2⟩
    · omega
    · have hba := (Below.refl W.heap.size W).alloc (Nat.le_refl _) (.cells #[.slice (some ⟨p, 0, none⟩) L.length cu] 51)
      have HBA := Lib.hid hba
      have d0 := (hba.cell (p := ⟨b, 0, none⟩) (by dsimp only; omega)).trans hc0
      have d1 := (hba.cell (p := ⟨b + 1, 0, none⟩) (by dsimp only; omega)).trans hc1
      have d2 := (hba.cell (p := ⟨b + 2, 0, none⟩) (by dsimp only; omega)).trans hc2
      have d3 := (hba.cell (p := ⟨g, k, none⟩) hg).trans dk
      have d4 := (hba.cell (p := ⟨p, n, none⟩) hp).trans (hpc n x hx)
      have d5 := (hba.cell (p := ⟨p2, n + 1, none⟩) hp2).trans (hpc2 (n + 1) y hy)
      have d6 : (W.alloc (.cells #[.slice (some ⟨p, 0, none⟩) L.length cu] 51)).cell? ⟨W.heap.size, 0, none⟩ = some (.slice (some ⟨p, 0, none⟩) L.length cu) := by
        rw [cell_of_row _ _ _ _ _ _ (heap_alloc_new W _)]; rfl
      have hwr : IntKind.i64.wrap ((n : Int) + 1) = ((n + 1 : Nat) : Int) := by rw [IntWalk.i64_in _ (by omega)]; omega
      have hnI : (n : Int) < (L.length : Int) := by omega
      have hnK : ((n + 1 : Nat) : Int) < (K.length : Int) := by omega
      have hkI : (k : Int) < (Ws.length : Int) := by omega
      clear hba hc0 hc1 hc2 dk hpc hpc2 hx hK hy hv hu hIk e2 e3
      by_cases e : x = y
      · subst e
        have hb2 : (x == x) = true := by simp
        obtain rfl : r = true := by rw [← HR.out]; simp
        go_enter Tryz.func135, Tryz.ntmps135
        go_wp2
        go_quiet (fail)
        go_wp2
        go_ret
        exact ⟨rfl, (by first | exact HBA.out | exact below_drewN HBA.out _)⟩
      · have hb2 : (x == y) = false := by simpa using e
        obtain rfl : r = false := by rw [← HR.out]; simp [e]
        clear e
        go_enter Tryz.func135, Tryz.ntmps135
        go_wp2
        go_quiet (fail)
        go_wp2
        go_ret
        exact ⟨rfl, (by first | exact HBA.out | exact below_drewN HBA.out _)⟩

theorem Tryz.entersAhead : ∀ args w, (callFunc 135 args).run Tryz.prog w = .ok (.enter 135 args) w := enters_of Tryz.func135 (by kernel_rfl) rfl

/-- Three boxes. -/
theorem three_boxes (w : World) (x0 x1 x2 : Value) (t0 t1 t2 : TypeId) :
    Below w.heap.size w (((w.alloc (.cells #[x0] t0)).alloc (.cells #[x1] t1)).alloc (.cells #[x2] t2)) ∧ (((w.alloc (.cells #[x0] t0)).alloc (.cells #[x1] t1)).alloc (.cells #[x2] t2)).heap.size = w.heap.size + 3 ∧
    (((w.alloc (.cells #[x0] t0)).alloc (.cells #[x1] t1)).alloc (.cells #[x2] t2)).cell? ⟨w.heap.size, 0, none⟩ = some x0 ∧ (((w.alloc (.cells #[x0] t0)).alloc (.cells #[x1] t1)).alloc (.cells #[x2] t2)).cell? ⟨w.heap.size + 1, 0, none⟩ = some x1 ∧ (((w.alloc (.cells #[x0] t0)).alloc (.cells #[x1] t1)).alloc (.cells #[x2] t2)).cell? ⟨w.heap.size + 2, 0, none⟩ = some x2 := by
  have s1 : (w.alloc (.cells #[x0] t0)).heap.size = w.heap.size + 1 := World.size_alloc _ _
  have s2 : ((w.alloc (.cells #[x0] t0)).alloc (.cells #[x1] t1)).heap.size = w.heap.size + 2 := by rw [World.size_alloc, s1]
  have s3 : (((w.alloc (.cells #[x0] t0)).alloc (.cells #[x1] t1)).alloc (.cells #[x2] t2)).heap.size = w.heap.size + 3 := by rw [World.size_alloc, s2]
  have b0 := (Below.refl w.heap.size w).alloc (Nat.le_refl _) (.cells #[x0] t0)
  have b1 := (Below.refl (w.alloc (.cells #[x0] t0)).heap.size (w.alloc (.cells #[x0] t0))).alloc (Nat.le_refl _) (.cells #[x1] t1)
  have b2 := (Below.refl ((w.alloc (.cells #[x0] t0)).alloc (.cells #[x1] t1)).heap.size ((w.alloc (.cells #[x0] t0)).alloc (.cells #[x1] t1))).alloc (Nat.le_refl _) (.cells #[x2] t2)
  have h0 : (w.alloc (.cells #[x0] t0)).heap[w.heap.size]? = some (.cells #[x0] t0) := heap_alloc_new w _
  have h1 : ((w.alloc (.cells #[x0] t0)).alloc (.cells #[x1] t1)).heap[w.heap.size + 1]? = some (.cells #[x1] t1) := by
    have := heap_alloc_new (w.alloc (.cells #[x0] t0)) (.cells #[x1] t1)
    rwa [s1] at this
  have h2 : (((w.alloc (.cells #[x0] t0)).alloc (.cells #[x1] t1)).alloc (.cells #[x2] t2)).heap[w.heap.size + 2]? = some (.cells #[x2] t2) := by
    have := heap_alloc_new ((w.alloc (.cells #[x0] t0)).alloc (.cells #[x1] t1)) (.cells #[x2] t2)
    rwa [s2] at this
  refine ⟨b0.trans ((b1.mono (by omega)).trans (b2.mono (by omega))), s3, ?_, ?_, ?_⟩
  · rw [cell_of_row _ _ _ _ _ _ ((b2.block w.heap.size (by omega)).trans ((b1.block w.heap.size (by omega)).trans h0))]; rfl
  · rw [cell_of_row _ _ _ _ _ _ ((b2.block (w.heap.size + 1) (by omega)).trans h1)]; rfl
  · rw [cell_of_row _ _ _ _ _ _ h2]; rfl

set_option maxHeartbeats 2000000 in
theorem implIndexW (g c b : Nat) (Ws : List (List Int)) (n k : Nat) (z : Int) (hT : totW Ws ≤ 2000000) (hlev : levV Ws (n : Int) = true) (hk : k < Ws.length) (HZ : Hid (nxtI (nxtV (colL Ws n) (colL Ws (n + 1)) k) = z)) (w : World)
    (hc0 : w.cell? ⟨b, 0, none⟩ = some (.slice (some ⟨g, 0, none⟩) Ws.length c)) (hc1 : w.cell? ⟨b + 1, 0, none⟩ = some (.int .i64 n)) (hc2 : w.cell? ⟨b + 2, 0, none⟩ = some (.int .i64 k)) (hv : WaysAt w (.slice (some ⟨g, 0, none⟩) Ws.length c) Ws) (hb : b + 2 < w.heap.size) :
    Calls Tryz.prog 108 #[.slice (some ⟨g, 0, none⟩) Ws.length c, .func (.func 135) #[] #[.pointer (some ⟨b + 1, 0, none⟩), .pointer (some ⟨b, 0, none⟩), .pointer (some ⟨b + 2, 0, none⟩)]] w (Made w (.int .i64 z)) := by
  have hW10 := (even_iff.1 (lev_iff.1 hlev).1).2.1
  obtain ⟨K, hK⟩ : ∃ K, Ws[k]? = some K := ⟨_, List.getElem?_eq_getElem hk⟩
  obtain ⟨_, y, _, hy, _, hyc⟩ := lev_cells hlev hK
  obtain ⟨A, HA⟩ : ∃ A, Hid (colL Ws n = A) := ⟨_, rfl⟩
  obtain ⟨B, HBB⟩ : ∃ B, Hid (colL Ws (n + 1) = B) := ⟨_, rfl⟩
  have hAl : A.length = Ws.length := by rw [← HA.out]; exact col_len
  rw [HBB.out] at hyc
  have hyB : B.getD k 0 = y := by rw [List.getD_eq_getElem?_getD, hyc]; rfl
  have HYB := Lib.hid hyB
  have HLEV := Lib.hid hlev
  have HTh := Lib.hid hT
  have HK := Lib.hid hK
  have HY := Lib.hid hy
  have HVV := Lib.hid hv
  have HC0 := Lib.hid hc0
  have HC1 := Lib.hid hc1
  have HC2 := Lib.hid hc2
  have HAL := Lib.hid hAl
  rw [HA.out, HBB.out] at HZ
  have hKl : K.length ≤ 2000000 := by have := totW_one hK; omega
  have eg := Tryz.entersAhead
  clear hc0 hc1 hc2 hyc hyB hlev hK hy hv hT hAl
  go_enter Tryz.func108, Tryz.ntmps108
  go_wp2
  go_loopw [5, 8] (fun _ i wr => ∃ j : Nat, j ≤ Ws.length ∧ i = .int .i64 j ∧ Hid (∀ (a : Nat) x, a < j → A[a]? = some x → x ≠ y) ∧ Below w.heap.size w wr) (fun _ i _ => Ws.length - (intOf i).toNat)
  case atStart => exact ⟨0, Nat.zero_le _, rfl, Lib.hid fun a x h => absurd h (by omega), Below.refl _ _⟩
  case round =>
    obtain ⟨j, hj, rfl, HK2, hB⟩ := hrel
    by_cases hlt : j < Ws.length
    · have hlt2 : (j : Int) < (Ws.length : Int) := by omega
      obtain ⟨L, hx⟩ : ∃ L, Ws[j]? = some L := ⟨_, List.getElem?_eq_getElem hlt⟩
      obtain ⟨x, _, hxt, _, hxc, _⟩ := lev_cells HLEV.out hx
      rw [HA.out] at hxc
      have hvr := waysAt_on HVV.out hB
      obtain ⟨_, au, _, e, hg, u, bu, rfl, d1, hI⟩ := way_at hvr hx
      injection e with e1 e2 e3
      injection e1 with e1
      injection e1 with e1
      subst e1
      have hLl : L.length ≤ 2000000 := by have := totW_one hx; have := HTh.out; omega
      obtain ⟨r, HR⟩ : ∃ r, Hid (decide (x = y) = r) := ⟨_, rfl⟩
      have HC := Lib.hid (aheadOne g c b Ws n k L K x y _ r (by omega) hLl hKl hxt HK.out HY.out HR wr ((hB.cell (p := ⟨b, 0, none⟩) (by dsimp only; omega)).trans HC0.out) ((hB.cell (p := ⟨b + 1, 0, none⟩) (by dsimp only; omega)).trans HC1.out) ((hB.cell (p := ⟨b + 2, 0, none⟩) hb).trans HC2.out) hvr hI (Nat.lt_of_lt_of_le hb hB.size))
      have HXC := Lib.hid hxc
      have HBR := Lib.hid hB
      clear hx hxt hxc hvr hI e2 e3 hB hLl
      cases r with
      | true =>
        have e : z = (j : Int) := by
          have hxy := of_decide_eq_true HR.out
          rw [← HZ.out, nxt_first (by rw [HXC.out, HYB.out, hxy]) (fun a z ha hz => by rw [HYB.out]; exact HK2.out a z ha hz)]
          rfl
        subst e
        go_wp2_with (go_at_fn 135; refine HC.out.mono ?_; rintro e w' ⟨rfl, hb'⟩; have HB2 := Lib.hid (HBR.out.trans (hb'.mono HBR.out.size)); clear hb')
        go_ret
        exact ⟨rfl, HB2.out⟩
      | false =>
        go_wp2_with (go_at_fn 135; refine HC.out.mono ?_; rintro e w' ⟨rfl, hb'⟩; have HB2 := Lib.hid (HBR.out.trans (hb'.mono HBR.out.size)); clear hb')
        go_roundw
        case rel => exact ⟨j + 1, by omega, by go_num, Lib.hid fun a x2 ha hz => (by
          rcases Nat.lt_succ_iff_lt_or_eq.1 ha with h | h
          · exact HK2.out a x2 h hz
          · rw [h, HXC.out] at hz
            cases hz
            exact of_decide_eq_false HR.out), HB2.out⟩
        case measure => simp [intOf]; omega
    · obtain rfl : j = Ws.length := by omega
      have hnl : ¬ (Ws.length : Int) < (Ws.length : Int) := by omega
      have e : z = -1 := by
        rw [← HZ.out, nxt_none fun a x hx => by
          rw [HYB.out]
          exact HK2.out a x (by rw [← HAL.out]; exact (List.getElem?_eq_some_iff.1 hx).1) hx]
        rfl
      subst e
      go_wp2
      go_ret
      exact ⟨rfl, hB⟩

set_option maxHeartbeats 2000000 in
theorem implAhead (v : Value) (Ws : List (List Int)) (n k : Nat) (z : Int) (hT : totW Ws ≤ 2000000) (hlev : levV Ws (n : Int) = true) (hk : k < Ws.length) (HZ : Hid (nxtI (nxtV (colL Ws n) (colL Ws (n + 1)) k) = z)) (w : World) (hv : WaysAt w v Ws) :
    Calls Tryz.prog 107 #[v, .int .i64 (n : Int), .int .i64 (k : Int)] w (Made w (.int .i64 z)) := by
  obtain ⟨K, hK⟩ : ∃ K, Ws[k]? = some K := ⟨_, List.getElem?_eq_getElem hk⟩
  obtain ⟨g, _, c, e, hg, _⟩ := way_at hv hK
  subst e
  obtain ⟨hb, hsz, hc0, hc1, hc2⟩ := three_boxes w (.slice (some ⟨g, 0, none⟩) Ws.length c) (.int .i64 (n : Int)) (.int .i64 (k : Int)) 27 3 3
  have HC := Lib.hid (implIndexW g c w.heap.size Ws n k z hT hlev hk HZ _ hc0 hc1 hc2 (waysAt_on hv hb) (by rw [hsz]; omega))
  have HB0 := Lib.hid hb
  clear hc1 hc2 hb hsz hK hv
  go_enter Tryz.func107, Tryz.ntmps107
  go_wp2_with (go_at_call 108; refine HC.out.mono ?_; rintro e w' ⟨rfl, hb'⟩; have HB2 := Lib.hid (HB0.out.trans (hb'.mono HB0.out.size)); clear hb')
  go_ret
  exact ⟨rfl, HB2.out⟩

end Go.Proofs.YtkbfbifepaoojaaGreatDoor

namespace Go.Proofs.YtkbfbifepaoojaaGreatDoor
set_option maxRecDepth 4096
open Go.ChangeShapes Go.WideShapes Go.ChangeAt Go.RowKit Go.Sort Go.Lib

theorem grown_putRow {w : World} {g n : Nat} (d : Array Int) : w.grownBy (putRow (Value.int .i64) (Sort.ahead w n) g 0 d) (some g) := by
  have h := grownBy_sortedI (w := w) (g := g) (n := n) (os := #[]) d
  rwa [Sort.grow_empty] at h

set_option maxHeartbeats 1000000 in
theorem implOnce (v : Value) (B : Nat) (L : List Int) (hL : L.length ≤ 100000000) (w : World) (hown : w.ownsRow B 3 1 v L.length (L.map (Value.int .i64))) :
    Calls Tryz.prog 57 #[v] w fun e w' => ∃ v', e = .returned v' ∧ w'.ownsRow B 3 1 v' (onceL L).length ((onceL L).map (Value.int .i64)) ∧ w.grownBy w' v.ownBlock := by
  by_cases h0 : L.length = 0
  · obtain rfl := List.eq_nil_of_length_eq_zero h0
    have e1 : onceL [] = [] := once_short (by simp)
    rw [e1]
    obtain ⟨a, c, rfl⟩ := own_form hown
    go_enter Tryz.func57, Tryz.ntmps57
    go_wp2_with fail
    refine Calls.mono (AnyM.slices_Sort_int_none Tryz.sortA a c _) ?_
    rintro e w1 ⟨rfl, rfl⟩
    go_wp2_with fail
    refine Calls.mono (Any.slices_Compact_int_empty Tryz.compA a c _) ?_
    rintro e w2 ⟨rfl, rfl⟩
    go_wp2_with fail
    go_ret
    exact ⟨_, rfl, hown, World.grownBy.refl _ _⟩
  · obtain ⟨g, cap, rfl, hB, hg, hnc, hcm, _, hH⟩ := holds_of_ownsRow hown (by
      intro e
      rcases hown.2 with ⟨_, h⟩ | ⟨g, cap, cur, rfl, _⟩
      · exact h0 h
      · cases e)
    obtain ⟨cur, hcur, hcs⟩ : ∃ cur, w.heap[g]? = some (.cells cur 3 (0, 0)) ∧ cur.size = cap * 1 := by
      rcases hown.2 with ⟨e, _⟩ | ⟨g', cap', cur, e, _, h1, _, _, h2, _⟩
      · cases e
      · injection e with e1 _ e3
        injection e1 with e1
        injection e1 with e1
        subst e1
        subst e3
        exact ⟨cur, h1, h2⟩
    obtain ⟨M, HM⟩ : ∃ M, Hid ((L.mergeSort fun x y => decide (x ≤ y)) = M) := ⟨_, rfl⟩
    have hMl : M.length = L.length := by rw [← HM.out, List.length_mergeSort]
    have HLM := Lib.hid hMl
    have HO : Hid (onceL L = Lib.compact M) := Lib.hid (by unfold onceL; rw [HM.out])
    rw [HO.out]
    have hcl : (Lib.compact M).length ≤ M.length := by
      have := once_len L
      rw [HO.out] at this
      omega
    have HCL := Lib.hid hcl
    clear hMl hcl
    go_enter Tryz.func57, Tryz.ntmps57
    go_wp2_with fail
    refine Calls.mono (AnyM.slices_Sort_int Tryz.sortA g 0 cap L _ hH hg (by omega)) ?_
    rintro e w1 ⟨rfl, n, os, rfl⟩
    rw [HM.out]
    have hown1 := ownsRow_sortedI (n := n) (os := os) HLM.out hB hcur hnc hcm hcs
    have hgr1 := grownBy_sortedI (w := w) (g := g) (n := n) (os := os) M.toArray
    generalize grow (putRow (Value.int .i64) (Sort.ahead w n) g 0 M.toArray) os = w1 at hown1 hgr1 ⊢
    obtain ⟨_, _, e5, _, _, _, _, _, hH1⟩ := holds_of_ownsRow hown1 (by intro e; cases e)
    injection e5 with e6 e7 e8
    injection e6 with e6
    injection e6 with e6
    subst e6
    clear e7 e8
    have HH1 := Lib.hid hH1
    have HO1 := Lib.hid hown1
    have HG1 := Lib.hid hgr1
    have HC := Lib.hid (Any.slices_Compact_int Tryz.compA g 0 cap M w1 HH1.out (by have := HLM.out; omega) (by have := HLM.out; omega))
    rw [HLM.out] at HC
    clear hH hown hown1 hgr1 hH1 hcur
    go_wp2_with fail
    refine Calls.mono HC.out ?_
    rintro e w2 ⟨rfl, q, rfl⟩
    have hg2 := grown_putRow (w := w1) (g := g) (n := q) (Lib.compact M ++ List.replicate (L.length - (Lib.compact M).length) 0).toArray
    have ho2 := ownsRow_putRow (enc := Value.int .i64) (q := q) (k := (Lib.compact M).length) (ys := Lib.compact M ++ List.replicate (L.length - (Lib.compact M).length) 0) HO1.out (by have := HCL.out; have := HLM.out; simp; omega) (by have := HCL.out; have := HLM.out; omega)
    rw [List.take_left' rfl] at ho2
    have HG2 := Lib.hid (HG1.out.trans hg2)
    have HO2 := Lib.hid ho2
    clear hg2 ho2 HH1 HO1 HG1
    generalize putRow (Value.int .i64) (Sort.ahead w1 q) g 0 (Lib.compact M ++ List.replicate (L.length - (Lib.compact M).length) 0).toArray = w2 at HG2 HO2 ⊢
    go_wp2_with fail
    go_ret
    exact ⟨_, rfl, HO2.out, HG2.out⟩

end Go.Proofs.YtkbfbifepaoojaaGreatDoor

namespace Go.Proofs.YtkbfbifepaoojaaGreatDoor
set_option maxRecDepth 4096
open Go.ChangeShapes Go.WideShapes Go.ChangeAt Go.RowKit

set_option maxHeartbeats 2000000 in
theorem implColR (v : Value) (Ws : List (List Int)) (t : Nat) (M : List Int) (hW : Ws.length ≤ 2000000) (hlev : ∀ (i : Nat) L, Ws[i]? = some L → t < L.length ∧ L.length ≤ 2000000) (HM : Hid (colL Ws t = M)) (w : World) (hv : WaysAt w v Ws) :
    Calls Tryz.prog 37 #[v, .int .i64 (t : Int)] w (IntsBack w (onceL M)) := by
  obtain ⟨i0, hi, hz0, hz1, hz2⟩ := info_parts Tryz.info3
  have HVV := Lib.hid hv
  have HLV := Lib.hid hlev
  have hMl : M.length = Ws.length := by rw [← HM.out]; exact col_len
  obtain ⟨av, cv, rfl, _⟩ := hv
  have HML := Lib.hid hMl
  clear hlev hMl
  go_enter Tryz.func37, Tryz.ntmps37
  go_wp2_with (at_make; go_loud (refine wpList_make_full w rfl (.tmp 9) (.tmp 9) 26 rfl w.heap.size 3 i0 (.int .i64 0) 1 Tryz.underlying26 hi hz0 hz1 .i64 .i64 (Ws.length : Int) (Ws.length : Int) Ws.length rfl rfl rfl rfl (by rw [hz2]; omega) (by unfold maxLen; omega) (Nat.le_refl _) ?_); intro w1 hown0 hgrow0; have HO0 := Lib.hid hown0; have HG0 := Lib.hid hgrow0; clear hown0 hgrow0)
  have hown0 := HO0.out
  have hgrow0 := HG0.out
  clear HO0 HG0
  generalize (madeCells (Value.int .i64 0).cells (Ws.length * 1)).toList = xs at hown0
  have hxl : xs.length = Ws.length := by have := hown0.1; omega
  have hb0 := (Below.refl w.heap.size w).grown hgrow0 (Nat.le_refl _) (by simp)
  clear hgrow0
  go_loopw [13] (fun i wr => ∃ k : Nat, k ≤ Ws.length ∧ i = .int .i64 k ∧ wr.ownsRow w.heap.size 3 1 (.slice (some ⟨w.heap.size, 0, none⟩) Ws.length Ws.length) Ws.length ((M.take k).map (Value.int .i64) ++ xs.drop k) ∧ Below w.heap.size w wr) (fun i _ => Ws.length - (intOf i).toNat)
  case atStart => exact ⟨0, Nat.zero_le _, rfl, by simpa using hown0, hb0⟩
  case round =>
    clear hown0 hb0
    obtain ⟨k, hk, rfl, hown, hbe⟩ := hrel
    by_cases hlt : k < Ws.length
    · have hlt2 : (k : Int) < (Ws.length : Int) := by omega
      obtain ⟨L, hx⟩ : ∃ L, Ws[k]? = some L := ⟨_, List.getElem?_eq_getElem hlt⟩
      obtain ⟨hlt3, hl2⟩ := HLV.out k L hx
      obtain ⟨g, au, c, e, hg, u, bu, rfl, d1, hI⟩ := way_at HVV.out hx
      injection e with e1 e2 e3
      subst e1 e3
      obtain ⟨x, hxx⟩ : ∃ x, L[t]? = some x := ⟨_, List.getElem?_eq_getElem hlt3⟩
      have HST := Lib.hid (ints_set_at M k x xs (by rw [← HM.out]; exact col_at hx hxx) (by omega))
      replace d1 := (hbe.cell (p := ⟨g, k, none⟩) hg).trans d1
      rcases ints_form hI with ⟨au2, cu2, e, HI⟩
      injection e with e1 e2 e3
      subst e1
      rcases HI with h0 | ⟨q, rfl, hq, hqc⟩
      · omega
      · have hb1 := (Below.refl wr.heap.size wr).alloc (Nat.le_refl _) (.cells #[.slice (some ⟨q, 0, none⟩) L.length bu] 51)
        have HBW := Lib.hid (hbe.trans (hb1.mono hbe.size))
        have d2 : (wr.alloc (.cells #[.slice (some ⟨q, 0, none⟩) L.length bu] 51)).cell? ⟨wr.heap.size, 0, none⟩ = some (.slice (some ⟨q, 0, none⟩) L.length bu) := by
          rw [cell_of_row _ _ _ _ _ _ (heap_alloc_new wr _)]; rfl
        have d3 : (wr.alloc (.cells #[.slice (some ⟨q, 0, none⟩) L.length bu] 51)).cell? ⟨q, t, none⟩ = some (.int .i64 x) := (HBW.out.cell (p := ⟨q, t, none⟩) hq).trans (hqc t x hxx)
        have hlt4 : (t : Int) < (L.length : Int) := by omega
        have ho2 := hown.alloc (.cells #[.slice (some ⟨q, 0, none⟩) L.length bu] 51)
        obtain ⟨u, d4⟩ := own_cell ho2 hlt
        have d5 := ho2.frozenAt k
        have HO2 := Lib.hid ho2
        clear hx hqc hxx e2 e3 hown hbe hb1 ho2
        go_wp2
        go_roundw
        case rel => exact ⟨k + 1, by omega, by go_num, by rw [← HST.out]; exact (HO2.out.stored k _).1, HBW.out.setCell (Nat.le_refl _) _⟩
        case measure => simp [intOf]; omega
    · obtain rfl : k = Ws.length := by omega
      have hnl : ¬ (Ws.length : Int) < (Ws.length : Int) := by omega
      have ho : wr.ownsRow w.heap.size 3 1 (.slice (some ⟨w.heap.size, 0, none⟩) Ws.length Ws.length) M.length (M.map (Value.int .i64)) := by
        rw [List.take_of_length_le (by rw [HML.out]; exact Nat.le_refl _), List.drop_of_length_le (by omega), List.append_nil] at hown
        rw [HML.out]
        exact hown
      have HC := Lib.hid (implOnce _ w.heap.size M (by rw [HML.out]; omega) wr ho)
      have HBE := Lib.hid hbe
      clear hown hbe ho
      go_wp2_with fail
      refine HC.out.mono ?_
      rintro e w2 ⟨v2, rfl, ho2, hg2⟩
      obtain ⟨a2, c2, rfl⟩ := own_form ho2
      have hb2 := HBE.out.grown hg2 HBE.out.size (fun j hj => by cases hj; exact Nat.le_refl _)
      go_wp2_with fail
      go_ret
      exact ⟨_, rfl, ho2, hb2⟩
theorem implCol (v : Value) (Ws : List (List Int)) (t : Nat) (M : List Int) (hW : Ws.length ≤ 2000000) (hlev : ∀ (i : Nat) L, Ws[i]? = some L → t < L.length ∧ L.length ≤ 2000000) (HM : Hid (colL Ws t = M)) (w : World) (hv : WaysAt w v Ws) :
    Calls Tryz.prog 37 #[v, .int .i64 (t : Int)] w fun e w' => ∃ a c, e = .returned (.slice a (onceL M).length c) ∧ Below w.heap.size w w' := by
  refine (implColR v Ws t M hW hlev HM w hv).mono ?_
  rintro e w' ⟨u, rfl, ho, hb⟩
  obtain ⟨a, c, rfl⟩ := own_form ho
  exact ⟨a, c, rfl, hb⟩

end Go.Proofs.YtkbfbifepaoojaaGreatDoor

