/-
  CONTRACT of the program's ahead: the first way that is where a way comes to. No law is proved here.
-/
import Derived.Test.YtkndlpcpkfgneaaLevelI
import Derived.BigQuiet
import Derived.Deep.QuietTactic
import Derived.Shelf.Abstract
namespace Go.Proofs.Ytkndlpcpkfgneaa
set_option maxRecDepth 4096
open Go.ChangeShapes Go.WideShapes Go.ChangeAt Go.RowKit

def nxtI : Option Nat → Int
  | some x => (x : Int)
  | none => -1
theorem nxt_first {A B : List Int} {k x : Nat} (h : A[x]? = some (B.getD k 0)) (hb : ∀ (a : Nat) z, a < x → A[a]? = some z → z ≠ B.getD k 0) : nxtV A B k = some x := by
  obtain ⟨hl, he⟩ := List.getElem?_eq_some_iff.1 h
  unfold nxtV
  refine List.findIdx?_eq_some_iff_getElem.2 ⟨hl, decide_eq_true he, fun j hj h2 => ?_⟩
  exact hb j _ hj (List.getElem?_eq_getElem (by omega)) (of_decide_eq_true h2)

set_option maxHeartbeats 2000000 in
/-- The closure: is a way where that one comes to? -/
theorem aheadOne (g c b : Nat) (Ws : List (List Int)) (n k : Nat) (L K : List Int) (x y : Int) (u : Value) (r : Bool) (_ : Ws.length ≤ 2000000) (hLl : L.length ≤ 2000000) (_ : K.length ≤ 2000000) (hx : L[n]? = some x) (hK : Ws[k]? = some K) (hy : K[n + 1]? = some y) (HR : Hid (decide (x = y) = r)) (W : World)
    (hc0 : W.cell? ⟨b, 0, none⟩ = some (.slice (some ⟨g, 0, none⟩) Ws.length c)) (hc1 : W.cell? ⟨b + 1, 0, none⟩ = some (.int .i64 n)) (hc2 : W.cell? ⟨b + 2, 0, none⟩ = some (.int .i64 k)) (hv : WaysAt W (.slice (some ⟨g, 0, none⟩) Ws.length c) Ws) (hu : Ints W u L) (hb : b + 2 < W.heap.size) :
    Calls Try.prog 64 #[.agg #[u], .pointer (some ⟨b + 1, 0, none⟩), .pointer (some ⟨b, 0, none⟩), .pointer (some ⟨b + 2, 0, none⟩)] W (Made W (.bool r)) := by
  obtain ⟨g2, ak, _, e, hg, uk, bk, rfl, dk, hIk⟩ := way_at hv hK
  injection e with e1 e2 e3
  injection e1 with e1
  injection e1 with e1
  subst e1
  obtain ⟨au, cu, rfl, HI⟩ := ints_form hu
  obtain ⟨_, _, e, HIK⟩ := ints_form hIk
  injection e with e1 _ e4
  subst e1 e4
  have hn1 : n < L.length := (List.getElem?_eq_some_iff.1 hx).1
  have hn2 : n + 1 < K.length := (List.getElem?_eq_some_iff.1 hy).1
  have hkl : k < Ws.length := (List.getElem?_eq_some_iff.1 hK).1
  rcases HI with h0 | ⟨p, rfl, hp, hpc⟩
  · omega
  · rcases HIK with h0 | ⟨p2, rfl, hp2, hpc2⟩
    · omega
    · have hba := (Below.refl W.heap.size W).alloc (Nat.le_refl _) (.cells #[.slice (some ⟨p, 0, none⟩) L.length cu] 39)
      have HBA := Lib.hid hba
      have d0 := (hba.cell (p := ⟨b, 0, none⟩) (by dsimp only; omega)).trans hc0
      have d1 := (hba.cell (p := ⟨b + 1, 0, none⟩) (by dsimp only; omega)).trans hc1
      have d2 := (hba.cell (p := ⟨b + 2, 0, none⟩) (by dsimp only; omega)).trans hc2
      have d3 := (hba.cell (p := ⟨g, k, none⟩) hg).trans dk
      have d4 := (hba.cell (p := ⟨p, n, none⟩) hp).trans (hpc n x hx)
      have d5 := (hba.cell (p := ⟨p2, n + 1, none⟩) hp2).trans (hpc2 (n + 1) y hy)
      have d6 : (W.alloc (.cells #[.slice (some ⟨p, 0, none⟩) L.length cu] 39)).cell? ⟨W.heap.size, 0, none⟩ = some (.slice (some ⟨p, 0, none⟩) L.length cu) := by
        rw [cell_of_row _ _ _ _ _ _ (heap_alloc_new W _)]; rfl
      have hwr : IntKind.i64.wrap ((n : Int) + 1) = ((n + 1 : Nat) : Int) := by rw [IntWalk.i64_in _ (by omega)]; omega
      have hnI : (n : Int) < (L.length : Int) := by omega
      have hnK : ((n + 1 : Nat) : Int) < (K.length : Int) := by omega
      have hkI : (k : Int) < (Ws.length : Int) := by omega
      clear hba hc0 hc1 hc2 dk hpc hpc2 hx hK hy hv hu hIk e2 e3
      by_cases e : x = y
      · subst e
        have hb2 : (x == x) = true := by simp
        obtain rfl : r = true := by rw [← HR.out]; simp
        go_enter Try.func64, Try.ntmps64
        go_wp2
        go_quiet (fail)
        go_wp2
        go_ret
        exact ⟨rfl, (by first | exact HBA.out | exact below_drewN HBA.out _)⟩
      · have hb2 : (x == y) = false := by simpa using e
        obtain rfl : r = false := by rw [← HR.out]; simp [e]
        clear e
        go_enter Try.func64, Try.ntmps64
        go_wp2
        go_quiet (fail)
        go_wp2
        go_ret
        exact ⟨rfl, (by first | exact HBA.out | exact below_drewN HBA.out _)⟩

theorem Try.entersAhead : ∀ args w, (callFunc 64 args).run Try.prog w = .ok (.enter 64 args) w := enters_of Try.func64 (by kernel_rfl) rfl

/-- Three boxes. -/
theorem three_boxes (w : World) (x0 x1 x2 : Value) (t0 t1 t2 : TypeId) :
    Below w.heap.size w (((w.alloc (.cells #[x0] t0)).alloc (.cells #[x1] t1)).alloc (.cells #[x2] t2)) ∧ (((w.alloc (.cells #[x0] t0)).alloc (.cells #[x1] t1)).alloc (.cells #[x2] t2)).heap.size = w.heap.size + 3 ∧
    (((w.alloc (.cells #[x0] t0)).alloc (.cells #[x1] t1)).alloc (.cells #[x2] t2)).cell? ⟨w.heap.size, 0, none⟩ = some x0 ∧ (((w.alloc (.cells #[x0] t0)).alloc (.cells #[x1] t1)).alloc (.cells #[x2] t2)).cell? ⟨w.heap.size + 1, 0, none⟩ = some x1 ∧ (((w.alloc (.cells #[x0] t0)).alloc (.cells #[x1] t1)).alloc (.cells #[x2] t2)).cell? ⟨w.heap.size + 2, 0, none⟩ = some x2 := by
  have s1 : (w.alloc (.cells #[x0] t0)).heap.size = w.heap.size + 1 := World.size_alloc _ _
  have s2 : ((w.alloc (.cells #[x0] t0)).alloc (.cells #[x1] t1)).heap.size = w.heap.size + 2 := by rw [World.size_alloc, s1]
  have s3 : (((w.alloc (.cells #[x0] t0)).alloc (.cells #[x1] t1)).alloc (.cells #[x2] t2)).heap.size = w.heap.size + 3 := by rw [World.size_alloc, s2]
  have b0 := (Below.refl w.heap.size w).alloc (Nat.le_refl _) (.cells #[x0] t0)
  have b1 := (Below.refl (w.alloc (.cells #[x0] t0)).heap.size (w.alloc (.cells #[x0] t0))).alloc (Nat.le_refl _) (.cells #[x1] t1)
  have b2 := (Below.refl ((w.alloc (.cells #[x0] t0)).alloc (.cells #[x1] t1)).heap.size ((w.alloc (.cells #[x0] t0)).alloc (.cells #[x1] t1))).alloc (Nat.le_refl _) (.cells #[x2] t2)
  have h0 : (w.alloc (.cells #[x0] t0)).heap[w.heap.size]? = some (.cells #[x0] t0) := heap_alloc_new w _
  have h1 : ((w.alloc (.cells #[x0] t0)).alloc (.cells #[x1] t1)).heap[w.heap.size + 1]? = some (.cells #[x1] t1) := by
    have := heap_alloc_new (w.alloc (.cells #[x0] t0)) (.cells #[x1] t1)
    rwa [s1] at this
  have h2 : (((w.alloc (.cells #[x0] t0)).alloc (.cells #[x1] t1)).alloc (.cells #[x2] t2)).heap[w.heap.size + 2]? = some (.cells #[x2] t2) := by
    have := heap_alloc_new ((w.alloc (.cells #[x0] t0)).alloc (.cells #[x1] t1)) (.cells #[x2] t2)
    rwa [s2] at this
  refine ⟨b0.trans ((b1.mono (by omega)).trans (b2.mono (by omega))), s3, ?_, ?_, ?_⟩
  · rw [cell_of_row _ _ _ _ _ _ ((b2.block w.heap.size (by omega)).trans ((b1.block w.heap.size (by omega)).trans h0))]; rfl
  · rw [cell_of_row _ _ _ _ _ _ ((b2.block (w.heap.size + 1) (by omega)).trans h1)]; rfl
  · rw [cell_of_row _ _ _ _ _ _ h2]; rfl

set_option maxHeartbeats 2000000 in
theorem implIndexW (g c b : Nat) (Ws : List (List Int)) (n k : Nat) (z : Int) (hT : totW Ws ≤ 2000000) (hlev : levV Ws (n : Int) = true) (hk : k < Ws.length) (HZ : Hid (nxtI (nxtV (colL Ws n) (colL Ws (n + 1)) k) = z)) (w : World)
    (hc0 : w.cell? ⟨b, 0, none⟩ = some (.slice (some ⟨g, 0, none⟩) Ws.length c)) (hc1 : w.cell? ⟨b + 1, 0, none⟩ = some (.int .i64 n)) (hc2 : w.cell? ⟨b + 2, 0, none⟩ = some (.int .i64 k)) (hv : WaysAt w (.slice (some ⟨g, 0, none⟩) Ws.length c) Ws) (hb : b + 2 < w.heap.size) :
    Calls Try.prog 57 #[.slice (some ⟨g, 0, none⟩) Ws.length c, .func (.func 64) #[] #[.pointer (some ⟨b + 1, 0, none⟩), .pointer (some ⟨b, 0, none⟩), .pointer (some ⟨b + 2, 0, none⟩)]] w (Made w (.int .i64 z)) := by
  have hW10 := (even_iff.1 (lev_iff.1 hlev).1).2.1
  obtain ⟨K, hK⟩ : ∃ K, Ws[k]? = some K := ⟨_, List.getElem?_eq_getElem hk⟩
  obtain ⟨_, y, _, hy, _, hyc⟩ := lev_cells hlev hK
  obtain ⟨A, HA⟩ : ∃ A, Hid (colL Ws n = A) := ⟨_, rfl⟩
  obtain ⟨B, HBB⟩ : ∃ B, Hid (colL Ws (n + 1) = B) := ⟨_, rfl⟩
  have hAl : A.length = Ws.length := by rw [← HA.out]; exact col_len
  rw [HBB.out] at hyc
  have hyB : B.getD k 0 = y := by rw [List.getD_eq_getElem?_getD, hyc]; rfl
  have HYB := Lib.hid hyB
  have HLEV := Lib.hid hlev
  have HTh := Lib.hid hT
  have HK := Lib.hid hK
  have HY := Lib.hid hy
  have HVV := Lib.hid hv
  have HC0 := Lib.hid hc0
  have HC1 := Lib.hid hc1
  have HC2 := Lib.hid hc2
  have HAL := Lib.hid hAl
  rw [HA.out, HBB.out] at HZ
  have hKl : K.length ≤ 2000000 := by have := totW_one hK; omega
  have eg := Try.entersAhead
  clear hc0 hc1 hc2 hyc hyB hlev hK hy hv hT hAl
  go_enter Try.func57, Try.ntmps57
  go_wp2
  go_loopw [5, 8] (fun _ i wr => ∃ j : Nat, j ≤ Ws.length ∧ i = .int .i64 j ∧ Hid (∀ (a : Nat) x, a < j → A[a]? = some x → x ≠ y) ∧ Below w.heap.size w wr) (fun _ i _ => Ws.length - (intOf i).toNat)
  case atStart => exact ⟨0, Nat.zero_le _, rfl, Lib.hid fun a x h => absurd h (by omega), Below.refl _ _⟩
  case round =>
    obtain ⟨j, hj, rfl, HK2, hB⟩ := hrel
    by_cases hlt : j < Ws.length
    · have hlt2 : (j : Int) < (Ws.length : Int) := by omega
      obtain ⟨L, hx⟩ : ∃ L, Ws[j]? = some L := ⟨_, List.getElem?_eq_getElem hlt⟩
      obtain ⟨x, _, hxt, _, hxc, _⟩ := lev_cells HLEV.out hx
      rw [HA.out] at hxc
      have hvr := waysAt_on HVV.out hB
      obtain ⟨_, au, _, e, hg, u, bu, rfl, d1, hI⟩ := way_at hvr hx
      injection e with e1 e2 e3
      injection e1 with e1
      injection e1 with e1
      subst e1
      have hLl : L.length ≤ 2000000 := by have := totW_one hx; have := HTh.out; omega
      obtain ⟨r, HR⟩ : ∃ r, Hid (decide (x = y) = r) := ⟨_, rfl⟩
      have HC := Lib.hid (aheadOne g c b Ws n k L K x y _ r (by omega) hLl hKl hxt HK.out HY.out HR wr ((hB.cell (p := ⟨b, 0, none⟩) (by dsimp only; omega)).trans HC0.out) ((hB.cell (p := ⟨b + 1, 0, none⟩) (by dsimp only; omega)).trans HC1.out) ((hB.cell (p := ⟨b + 2, 0, none⟩) hb).trans HC2.out) hvr hI (Nat.lt_of_lt_of_le hb hB.size))
      have HXC := Lib.hid hxc
      have HBR := Lib.hid hB
      clear hx hxt hxc hvr hI e2 e3 hB hLl
      cases r with
      | true =>
        have e : z = (j : Int) := by
          have hxy := of_decide_eq_true HR.out
          rw [← HZ.out, nxt_first (by rw [HXC.out, HYB.out, hxy]) (fun a z ha hz => by rw [HYB.out]; exact HK2.out a z ha hz)]
          rfl
        subst e
        go_wp2_with (go_at_fn 64; refine HC.out.mono ?_; rintro e w' ⟨rfl, hb'⟩; have HB2 := Lib.hid (HBR.out.trans (hb'.mono HBR.out.size)); clear hb')
        go_ret
        exact ⟨rfl, HB2.out⟩
      | false =>
        go_wp2_with (go_at_fn 64; refine HC.out.mono ?_; rintro e w' ⟨rfl, hb'⟩; have HB2 := Lib.hid (HBR.out.trans (hb'.mono HBR.out.size)); clear hb')
        go_roundw
        case rel => exact ⟨j + 1, by omega, by go_num, Lib.hid fun a x2 ha hz => (by
          rcases Nat.lt_succ_iff_lt_or_eq.1 ha with h | h
          · exact HK2.out a x2 h hz
          · rw [h, HXC.out] at hz
            cases hz
            exact of_decide_eq_false HR.out), HB2.out⟩
        case measure => simp [intOf]; omega
    · obtain rfl : j = Ws.length := by omega
      have hnl : ¬ (Ws.length : Int) < (Ws.length : Int) := by omega
      have e : z = -1 := by
        rw [← HZ.out, nxt_none fun a x hx => by
          rw [HYB.out]
          exact HK2.out a x (by rw [← HAL.out]; exact (List.getElem?_eq_some_iff.1 hx).1) hx]
        rfl
      subst e
      go_wp2
      go_ret
      exact ⟨rfl, hB⟩

set_option maxHeartbeats 2000000 in
theorem implAhead (v : Value) (Ws : List (List Int)) (n k : Nat) (z : Int) (hT : totW Ws ≤ 2000000) (hlev : levV Ws (n : Int) = true) (hk : k < Ws.length) (HZ : Hid (nxtI (nxtV (colL Ws n) (colL Ws (n + 1)) k) = z)) (w : World) (hv : WaysAt w v Ws) :
    Calls Try.prog 56 #[v, .int .i64 (n : Int), .int .i64 (k : Int)] w (Made w (.int .i64 z)) := by
  obtain ⟨K, hK⟩ : ∃ K, Ws[k]? = some K := ⟨_, List.getElem?_eq_getElem hk⟩
  obtain ⟨g, _, c, e, hg, _⟩ := way_at hv hK
  subst e
  obtain ⟨hb, hsz, hc0, hc1, hc2⟩ := three_boxes w (.slice (some ⟨g, 0, none⟩) Ws.length c) (.int .i64 (n : Int)) (.int .i64 (k : Int)) 24 3 3
  have HC := Lib.hid (implIndexW g c w.heap.size Ws n k z hT hlev hk HZ _ hc0 hc1 hc2 (waysAt_on hv hb) (by rw [hsz]; omega))
  have HB0 := Lib.hid hb
  clear hc1 hc2 hb hsz hK hv
  go_enter Try.func56, Try.ntmps56
  go_wp2_with (go_at_call 57; refine HC.out.mono ?_; rintro e w' ⟨rfl, hb'⟩; have HB2 := Lib.hid (HB0.out.trans (hb'.mono HB0.out.size)); clear hb')
  go_ret
  exact ⟨rfl, HB2.out⟩

end Go.Proofs.Ytkndlpcpkfgneaa
