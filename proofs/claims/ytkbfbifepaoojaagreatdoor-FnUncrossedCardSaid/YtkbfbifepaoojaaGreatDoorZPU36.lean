/-
  CONTRACT of the program's behind: the first way that comes to where a way is. No law is proved here.
  CONTRACT of the program's staying. No law is proved here.
-/
import Derived.Test.YtkbfbifepaoojaaGreatDoorZPU21
import Derived.Test.YtkbfbifepaoojaaGreatDoorZPU22
import Derived.Test.YtkbfbifepaoojaaGreatDoorZPU33
namespace Go.Proofs.YtkbfbifepaoojaaGreatDoor
set_option maxRecDepth 4096
open Go.ChangeShapes Go.WideShapes Go.ChangeAt Go.RowKit

set_option maxHeartbeats 2000000 in
/-- The closure: does a way come to where that one is? -/
theorem behindOne (g c b : Nat) (Ws : List (List Int)) (n k : Nat) (L K : List Int) (x y : Int) (u : Value) (r : Bool) (_ : Ws.length ≤ 2000000) (hLl : L.length ≤ 2000000) (_ : K.length ≤ 2000000) (hx : L[n + 1]? = some x) (hK : Ws[k]? = some K) (hy : K[n]? = some y) (HR : Hid (decide (x = y) = r)) (W : World)
    (hc0 : W.cell? ⟨b, 0, none⟩ = some (.slice (some ⟨g, 0, none⟩) Ws.length c)) (hc1 : W.cell? ⟨b + 1, 0, none⟩ = some (.int .i64 n)) (hc2 : W.cell? ⟨b + 2, 0, none⟩ = some (.int .i64 k)) (hv : WaysAt W (.slice (some ⟨g, 0, none⟩) Ws.length c) Ws) (hu : Ints W u L) (hb : b + 2 < W.heap.size) :
    Calls Tryz.prog 109 #[.agg #[u], .pointer (some ⟨b + 1, 0, none⟩), .pointer (some ⟨b, 0, none⟩), .pointer (some ⟨b + 2, 0, none⟩)] W (Made W (.bool r)) := by
  obtain ⟨g2, ak, _, e, hg, uk, bk, rfl, dk, hIk⟩ := way_at hv hK
  injection e with e1 e2 e3
  injection e1 with e1
  injection e1 with e1
  subst e1
  obtain ⟨au, cu, rfl, HI⟩ := ints_form hu
  obtain ⟨_, _, e, HIK⟩ := ints_form hIk
  injection e with e1 _ e4
  subst e1 e4
  have hn1 : n + 1 < L.length := (List.getElem?_eq_some_iff.1 hx).1
  have hn2 : n < K.length := (List.getElem?_eq_some_iff.1 hy).1
  have hkl : k < Ws.length := (List.getElem?_eq_some_iff.1 hK).1
  rcases HI with h0 | ⟨p, rfl, hp, hpc⟩
  · omega
  · rcases HIK with h0 | ⟨p2, rfl, hp2, hpc2⟩
    · omega
    · have hba := (Below.refl W.heap.size W).alloc (Nat.le_refl _) (.cells #[.slice (some ⟨p, 0, none⟩) L.length cu] 51)
      have HBA := Lib.hid hba
      have d0 := (hba.cell (p := ⟨b, 0, none⟩) (by dsimp only; omega)).trans hc0
      have d1 := (hba.cell (p := ⟨b + 1, 0, none⟩) (by dsimp only; omega)).trans hc1
      have d2 := (hba.cell (p := ⟨b + 2, 0, none⟩) (by dsimp only; omega)).trans hc2
      have d3 := (hba.cell (p := ⟨g, k, none⟩) hg).trans dk
      have d4 := (hba.cell (p := ⟨p, n + 1, none⟩) hp).trans (hpc (n + 1) x hx)
      have d5 := (hba.cell (p := ⟨p2, n, none⟩) hp2).trans (hpc2 n y hy)
      have d6 : (W.alloc (.cells #[.slice (some ⟨p, 0, none⟩) L.length cu] 51)).cell? ⟨W.heap.size, 0, none⟩ = some (.slice (some ⟨p, 0, none⟩) L.length cu) := by
        rw [cell_of_row _ _ _ _ _ _ (heap_alloc_new W _)]; rfl
      have hwr : IntKind.i64.wrap ((n : Int) + 1) = ((n + 1 : Nat) : Int) := by rw [IntWalk.i64_in _ (by omega)]; omega
      have hnI : ((n + 1 : Nat) : Int) < (L.length : Int) := by omega
      have hnK : (n : Int) < (K.length : Int) := by omega
      have hkI : (k : Int) < (Ws.length : Int) := by omega
      clear hba hc0 hc1 hc2 dk hpc hpc2 hx hK hy hv hu hIk e2 e3
      by_cases e : x = y
      · subst e
        have hb2 : (x == x) = true := by simp
        obtain rfl : r = true := by rw [← HR.out]; simp
        go_enter Tryz.func109, Tryz.ntmps109
        go_wp2
        go_quiet (fail)
        go_wp2
        go_ret
        exact ⟨rfl, (by first | exact HBA.out | exact below_drewN HBA.out _)⟩
      · have hb2 : (x == y) = false := by simpa using e
        obtain rfl : r = false := by rw [← HR.out]; simp [e]
        clear e
        go_enter Tryz.func109, Tryz.ntmps109
        go_wp2
        go_quiet (fail)
        go_wp2
        go_ret
        exact ⟨rfl, (by first | exact HBA.out | exact below_drewN HBA.out _)⟩

theorem Tryz.entersBehind : ∀ args w, (callFunc 109 args).run Tryz.prog w = .ok (.enter 109 args) w := enters_of Tryz.func109 (by kernel_rfl) rfl

set_option maxHeartbeats 2000000 in
theorem implIndexB (g c b : Nat) (Ws : List (List Int)) (n k : Nat) (z : Int) (hT : totW Ws ≤ 2000000) (hlev : levV Ws (n : Int) = true) (hk : k < Ws.length) (HZ : Hid (nxtI (nxtV (colL Ws (n + 1)) (colL Ws n) k) = z)) (w : World)
    (hc0 : w.cell? ⟨b, 0, none⟩ = some (.slice (some ⟨g, 0, none⟩) Ws.length c)) (hc1 : w.cell? ⟨b + 1, 0, none⟩ = some (.int .i64 n)) (hc2 : w.cell? ⟨b + 2, 0, none⟩ = some (.int .i64 k)) (hv : WaysAt w (.slice (some ⟨g, 0, none⟩) Ws.length c) Ws) (hb : b + 2 < w.heap.size) :
    Calls Tryz.prog 108 #[.slice (some ⟨g, 0, none⟩) Ws.length c, .func (.func 109) #[] #[.pointer (some ⟨b + 1, 0, none⟩), .pointer (some ⟨b, 0, none⟩), .pointer (some ⟨b + 2, 0, none⟩)]] w (Made w (.int .i64 z)) := by
  have hW10 := (even_iff.1 (lev_iff.1 hlev).1).2.1
  obtain ⟨K, hK⟩ : ∃ K, Ws[k]? = some K := ⟨_, List.getElem?_eq_getElem hk⟩
  obtain ⟨y, _, hy, _, hyc, _⟩ := lev_cells hlev hK
  obtain ⟨A, HA⟩ : ∃ A, Hid (colL Ws (n + 1) = A) := ⟨_, rfl⟩
  obtain ⟨B, HBB⟩ : ∃ B, Hid (colL Ws n = B) := ⟨_, rfl⟩
  have hAl : A.length = Ws.length := by rw [← HA.out]; exact col_len
  rw [HBB.out] at hyc
  have hyB : B.getD k 0 = y := by rw [List.getD_eq_getElem?_getD, hyc]; rfl
  have HYB := Lib.hid hyB
  have HLEV := Lib.hid hlev
  have HTh := Lib.hid hT
  have HK := Lib.hid hK
  have HY := Lib.hid hy
  have HVV := Lib.hid hv
  have HC0 := Lib.hid hc0
  have HC1 := Lib.hid hc1
  have HC2 := Lib.hid hc2
  have HAL := Lib.hid hAl
  rw [HA.out, HBB.out] at HZ
  have hKl : K.length ≤ 2000000 := by have := totW_one hK; omega
  have eg := Tryz.entersBehind
  clear hc0 hc1 hc2 hyc hyB hlev hK hy hv hT hAl
  go_enter Tryz.func108, Tryz.ntmps108
  go_wp2
  go_loopw [5, 8] (fun _ i wr => ∃ j : Nat, j ≤ Ws.length ∧ i = .int .i64 j ∧ Hid (∀ (a : Nat) x, a < j → A[a]? = some x → x ≠ y) ∧ Below w.heap.size w wr) (fun _ i _ => Ws.length - (intOf i).toNat)
  case atStart => exact ⟨0, Nat.zero_le _, rfl, Lib.hid fun a x h => absurd h (by omega), Below.refl _ _⟩
  case round =>
    obtain ⟨j, hj, rfl, HK2, hB⟩ := hrel
    by_cases hlt : j < Ws.length
    · have hlt2 : (j : Int) < (Ws.length : Int) := by omega
      obtain ⟨L, hx⟩ : ∃ L, Ws[j]? = some L := ⟨_, List.getElem?_eq_getElem hlt⟩
      obtain ⟨_, x, _, hxt, _, hxc⟩ := lev_cells HLEV.out hx
      rw [HA.out] at hxc
      have hvr := waysAt_on HVV.out hB
      obtain ⟨_, au, _, e, hg, u, bu, rfl, d1, hI⟩ := way_at hvr hx
      injection e with e1 e2 e3
      injection e1 with e1
      injection e1 with e1
      subst e1
      have hLl : L.length ≤ 2000000 := by have := totW_one hx; have := HTh.out; omega
      obtain ⟨r, HR⟩ : ∃ r, Hid (decide (x = y) = r) := ⟨_, rfl⟩
      have HC := Lib.hid (behindOne g c b Ws n k L K x y _ r (by omega) hLl hKl hxt HK.out HY.out HR wr ((hB.cell (p := ⟨b, 0, none⟩) (by dsimp only; omega)).trans HC0.out) ((hB.cell (p := ⟨b + 1, 0, none⟩) (by dsimp only; omega)).trans HC1.out) ((hB.cell (p := ⟨b + 2, 0, none⟩) hb).trans HC2.out) hvr hI (Nat.lt_of_lt_of_le hb hB.size))
      have HXC := Lib.hid hxc
      have HBR := Lib.hid hB
      clear hx hxt hxc hvr hI e2 e3 hB hLl
      cases r with
      | true =>
        have e : z = (j : Int) := by
          have hxy := of_decide_eq_true HR.out
          rw [← HZ.out, nxt_first (by rw [HXC.out, HYB.out, hxy]) (fun a z ha hz => by rw [HYB.out]; exact HK2.out a z ha hz)]
          rfl
        subst e
        go_wp2_with (go_at_fn 109; refine HC.out.mono ?_; rintro e w' ⟨rfl, hb'⟩; have HB2 := Lib.hid (HBR.out.trans (hb'.mono HBR.out.size)); clear hb')
        go_ret
        exact ⟨rfl, HB2.out⟩
      | false =>
        go_wp2_with (go_at_fn 109; refine HC.out.mono ?_; rintro e w' ⟨rfl, hb'⟩; have HB2 := Lib.hid (HBR.out.trans (hb'.mono HBR.out.size)); clear hb')
        go_roundw
        case rel => exact ⟨j + 1, by omega, by go_num, Lib.hid fun a x2 ha hz => (by
          rcases Nat.lt_succ_iff_lt_or_eq.1 ha with h | h
          · exact HK2.out a x2 h hz
          · rw [h, HXC.out] at hz
            cases hz
            exact of_decide_eq_false HR.out), HB2.out⟩
        case measure => simp [intOf]; omega
    · obtain rfl : j = Ws.length := by omega
      have hnl : ¬ (Ws.length : Int) < (Ws.length : Int) := by omega
      have e : z = -1 := by
        rw [← HZ.out, nxt_none fun a x hx => by
          rw [HYB.out]
          exact HK2.out a x (by rw [← HAL.out]; exact (List.getElem?_eq_some_iff.1 hx).1) hx]
        rfl
      subst e
      go_wp2
      go_ret
      exact ⟨rfl, hB⟩

set_option maxHeartbeats 2000000 in
theorem implBehind (v : Value) (Ws : List (List Int)) (n k : Nat) (z : Int) (hT : totW Ws ≤ 2000000) (hlev : levV Ws (n : Int) = true) (hk : k < Ws.length) (HZ : Hid (nxtI (nxtV (colL Ws (n + 1)) (colL Ws n) k) = z)) (w : World) (hv : WaysAt w v Ws) :
    Calls Tryz.prog 71 #[v, .int .i64 (n : Int), .int .i64 (k : Int)] w (Made w (.int .i64 z)) := by
  obtain ⟨K, hK⟩ : ∃ K, Ws[k]? = some K := ⟨_, List.getElem?_eq_getElem hk⟩
  obtain ⟨g, _, c, e, hg, _⟩ := way_at hv hK
  subst e
  obtain ⟨hb, hsz, hc0, hc1, hc2⟩ := three_boxes w (.slice (some ⟨g, 0, none⟩) Ws.length c) (.int .i64 (n : Int)) (.int .i64 (k : Int)) 27 3 3
  have HC := Lib.hid (implIndexB g c w.heap.size Ws n k z hT hlev hk HZ _ hc0 hc1 hc2 (waysAt_on hv hb) (by rw [hsz]; omega))
  have HB0 := Lib.hid hb
  clear hc1 hc2 hb hsz hK hv
  go_enter Tryz.func71, Tryz.ntmps71
  go_wp2_with (go_at_call 108; refine HC.out.mono ?_; rintro e w' ⟨rfl, hb'⟩; have HB2 := Lib.hid (HB0.out.trans (hb'.mono HB0.out.size)); clear hb')
  go_ret
  exact ⟨rfl, HB2.out⟩

end Go.Proofs.YtkbfbifepaoojaaGreatDoor

namespace Go.Proofs.YtkbfbifepaoojaaGreatDoor
set_option maxRecDepth 4096
open Go.ChangeShapes Go.WideShapes Go.ChangeAt Go.RowKit

theorem stay_take {Ws : List (List Int)} {i t : Nat} (h : t < wideV Ws) : (stayV Ws i).take (t + 1) = (stayV Ws i).take t ++ [(colL Ws t).getD (sigV Ws i t) 0] := by
  have h2 := stay_at (i := i) h
  obtain ⟨hl, e⟩ := List.getElem?_eq_some_iff.1 h2
  rw [List.take_succ_eq_append_getElem hl, e]
/-- The cell of a way at a time. -/
theorem cell_at {Ws : List (List Int)} (he : evenV Ws = true) {k t : Nat} (hk : k < Ws.length) (ht : t < wideV Ws) : ∃ L, Ws[k]? = some L ∧ L.length = wideV Ws ∧ L[t]? = some ((colL Ws t).getD k 0) := by
  have hL : Ws[k]? = some Ws[k] := List.getElem?_eq_getElem hk
  obtain ⟨h1, h2⟩ := col_is he hL ht
  refine ⟨_, hL, (even_iff.1 he).2.2 k _ hL, ?_⟩
  have e : (colL Ws t).getD k 0 = Ws[k].getD t 0 := by
    rw [List.getD_eq_getElem?_getD, h1]
    rfl
  rw [e]
  exact h2

/-- A way came back, its cells in memory of the call's own. -/
def StayBack (w : World) (L : List Int) (e : Ending) (w' : World) : Prop :=
  ∃ u, e = .returned (.agg #[u]) ∧ w'.ownsRow w.heap.size 3 1 u L.length (L.map (Value.int .i64)) ∧ Below w.heap.size w w'

set_option maxHeartbeats 4000000 in
theorem implStay (v : Value) (Ws : List (List Int)) (i : Nat) (hT : totW Ws ≤ 2000000) (hreg : regV Ws = true) (hi : i < Ws.length) (w : World) (hv : WaysAt w v Ws) :
    Calls Tryz.prog 31 #[v, .int .i64 (i : Int)] w (StayBack w (stayV Ws i)) := by
  obtain ⟨i0, hif, hz0, hz1, hz2⟩ := info_parts Tryz.info3
  have HE := Lib.hid (reg_iff.1 hreg).1
  have h0 := (reg_iff.1 hreg).2.1
  have HW10 := Lib.hid (even_iff.1 HE.out).2.1
  have hwd : wideV Ws ≤ 2000000 := by
    obtain ⟨L, hL, hl, _⟩ := cell_at HE.out hi h0
    have := totW_one hL
    omega
  have HR := Lib.hid hreg
  have HTh := Lib.hid hT
  have HVV := Lib.hid hv
  have hbox := (Below.refl w.heap.size w).alloc (Nat.le_refl _) (.cells #[.slice none 0 0] 51)
  obtain ⟨L0, hL0, hl0, hx0⟩ := cell_at HE.out hi h0
  obtain ⟨g, a0, c, e, hg, u0, b0, rfl, d0, hI0⟩ := way_at (waysAt_on hv hbox) hL0
  subst e
  obtain ⟨_, _, e, HI⟩ := ints_form hI0
  injection e with e1 _ e3
  subst e1 e3
  rcases HI with h | ⟨p, rfl, hp, hpc⟩
  · omega
  have dx := hpc 0 _ hx0
  have hiI : (i : Int) < (Ws.length : Int) := by omega
  have hl0I : (0 : Int) < (L0.length : Int) := by omega
  obtain ⟨x, HX⟩ : ∃ x, Hid ((colL Ws 0).getD i 0 = x) := ⟨_, rfl⟩
  rw [HX.out] at dx
  have hwr : IntKind.i64.wrap ((L0.length : Int) - 1) = (L0.length : Int) - 1 := IntWalk.i64_in _ (by omega)
  have HL0 := Lib.hid hl0
  have HB1 := Lib.hid hbox
  have hown0 : ((w.alloc (.cells #[.slice none 0 0] 51)).alloc (.cells #[.int .i64 x] 3)).ownsRow (w.heap.size + 1) 3 1 (.slice (some ⟨w.heap.size + 1, 0, none⟩) 1 1) 1 ([x].map (Value.int .i64)) := by
    have h := World.ownsRow_lit (base := w.heap.size + 1) (e := 3) (size := 1) (w.alloc (.cells #[.slice none 0 0] 51)) #[.int .i64 x] 1 (Nat.le_of_eq (World.size_alloc _ _).symm) (by decide) rfl
    rw [World.size_alloc] at h
    exact h
  have HO0 := Lib.hid hown0
  have hb2 := (Below.refl (w.alloc (.cells #[.slice none 0 0] 51)).heap.size (w.alloc (.cells #[.slice none 0 0] 51))).alloc (Nat.le_refl _) (.cells #[.int .i64 x] 3)
  have d9 := (hb2.cell (p := ⟨g, i, none⟩) hg).trans d0
  have HB2 := Lib.hid (hbox.trans (hb2.mono hbox.size))
  have HX2 := Lib.hid ((hb2.block w.heap.size (by simp)).trans (heap_alloc_new w (.cells #[.slice none 0 0] 51)))
  clear hv hL0 hI0 hpc hx0 hl0 hbox hown0 hreg hT hb2
  go_enter Tryz.func31, Tryz.ntmps31
  go_wp2
  have HT0 : Hid ((stayV Ws i).take 1 = [x]) := Lib.hid (by rw [stay_take h0, List.take_zero]; show [] ++ [(colL Ws 0).getD i 0] = _; rw [HX.out]; rfl)
  go_loopw [1, 5, 6, 22] (fun iv cv _ tv wr => ∃ (t k : Nat), t + 1 ≤ wideV Ws ∧ iv = .int .i64 (k : Int) ∧ k < Ws.length ∧ Hid (sigV Ws i t = k) ∧ tv = .int .i64 (t : Int) ∧ wr.ownsRow (w.heap.size + 1) 3 1 cv (t + 1) (((stayV Ws i).take (t + 1)).map (Value.int .i64)) ∧ w.heap.size + 1 ≤ wr.heap.size ∧ wr.heap[w.heap.size]? = some (.cells #[.slice none 0 0] 51 (0, 0)) ∧ Below w.heap.size w wr) (fun _ _ _ tv _ => wideV Ws - (intOf tv).toNat)
  case atStart => exact ⟨0, i, by omega, rfl, hi, Lib.hid rfl, rfl, (by rw [HT0.out]; exact HO0.out), by simp, HX2.out, HB2.out⟩
  case round =>
    obtain ⟨t, k, ht, rfl, hk, HSK, rfl, hown, hsz, hbx, hB⟩ := hrel
    by_cases hlt : t + 1 < wideV Ws
    · have hlt2 : (t : Int) < (L0.length : Int) - 1 := by rw [HL0.out]; omega
      have hlev := reg_lev HR.out hlt
      have hfree := (reg_iff.1 HR.out).2.2 t hlt
      obtain ⟨m, HM⟩ : ∃ m, Hid (ringV (colL Ws t) (colL Ws (t + 1)) k = m) := ⟨_, rfl⟩
      have HC := Lib.hid (implCircle _ Ws t k m HTh.out hlev hfree hk HM wr (waysAt_on HVV.out hB))
      have HNX : Hid (sigV Ws i (t + 1) = goB (colL Ws t) (colL Ws (t + 1)) k) := Lib.hid (by show goB _ _ (sigV Ws i t) = _; rw [HSK.out])
      have HBW := Lib.hid hB
      have HO := Lib.hid hown
      have HSZ := Lib.hid hsz
      have HXB := Lib.hid hbx
      have HLEV := Lib.hid hlev
      clear hown hB hsz hbx hlev hfree
      by_cases hm : 1 < m
      · have hmI : (1 : Int) < (m : Int) := by omega
        obtain ⟨y, HY⟩ : ∃ y, Hid (goB (colL Ws t) (colL Ws (t + 1)) k = y) := ⟨_, rfl⟩
        have hf := reg_free HR.out hlt
        obtain ⟨hy, hyn, _⟩ := goB_ring hf.1 hf.2 (by rw [col_len, col_len]) (by rw [col_len]; exact hk) (by rw [HM.out]; exact hm)
        rw [HY.out] at hy hyn
        rw [col_len] at hy
        rw [HY.out] at HNX
        have HYN := Lib.hid hyn
        clear hf hyn
        go_wp2_with fail
        refine HC.out.mono ?_
        rintro e w1 ⟨rfl, hb⟩
        have HB2 := Lib.hid (HBW.out.trans (hb.mono HBW.out.size))
        have HO2 := Lib.hid (own_below HO.out hb HSZ.out)
        have HS2 := Lib.hid (Nat.le_trans HSZ.out hb.size)
        have HXB2 := Lib.hid ((hb.block w.heap.size (by have := HSZ.out; omega)).trans HXB.out)
        clear hb
        go_wp2_with fail
        refine (implBehind _ Ws t k (y : Int) HTh.out HLEV.out hk (Lib.hid (by rw [HYN.out]; rfl)) w1 (waysAt_on HVV.out HB2.out)).mono ?_
        rintro e w2 ⟨rfl, hb⟩
        have HBX := Lib.hid (HB2.out.trans (hb.mono HB2.out.size))
        have HOX := Lib.hid (own_below HO2.out hb HS2.out)
        have HSX := Lib.hid (Nat.le_trans HS2.out hb.size)
        have HXX := Lib.hid ((hb.block w.heap.size (by have := HS2.out; omega)).trans HXB2.out)
        clear hb
        obtain ⟨L, hL, hl, hxL⟩ := cell_at HE.out hy hlt
        obtain ⟨_, _, _, e, hgy, uy, by0, rfl, dy, hIy⟩ := way_at (waysAt_on HVV.out HBX.out) hL
        injection e with e1 e2 e3
        injection e1 with e1
        injection e1 with e1
        subst e1
        clear e2 e3
        obtain ⟨_, _, e, HIy⟩ := ints_form hIy
        injection e with e1 _ e3
        subst e1 e3
        rcases HIy with h | ⟨py, rfl, hpy, hpcy⟩
        · omega
        obtain ⟨z, HZ⟩ : ∃ z, Hid ((colL Ws (t + 1)).getD y 0 = z) := ⟨_, rfl⟩
        rw [HZ.out] at hxL
        have dz := hpcy (t + 1) z hxL
        have hyI : (y : Int) < (Ws.length : Int) := by omega
        have htI : ((t + 1 : Nat) : Int) < (L.length : Int) := by omega
        have hwt : IntKind.i64.wrap ((t : Int) + 1) = ((t + 1 : Nat) : Int) := by rw [IntWalk.i64_in _ (by omega)]; omega
        have HTK : Hid ((stayV Ws i).take (t + 1 + 1) = (stayV Ws i).take (t + 1) ++ [z]) := Lib.hid (by rw [stay_take hlt, HNX.out, HZ.out])
        clear hL hl hxL hIy hpcy
        go_wp2_with (at_builtin; refine wpList_append_own _ rfl _ _ 26 rfl (w.heap.size + 1) 3 i0 (.int .i64 0) 1 8 Tryz.underlying26 hif hz0 hz1 hz2 rfl (by decide) _ _ _ rfl (HOX.out.alloc _) ⟨_, 0, none⟩ 1 1 ([z].map (Value.int .i64)) rfl rfl (int_new _ _ _) (ints_one _) (by unfold maxLen; omega) (by omega) (by rw [World.size_alloc]; have := HSX.out; omega) ?_; intro v' w6 hown6 hgrow _; have HB6 := Lib.hid ((HBX.out.alloc HBX.out.size _).grown hgrow (by rw [World.size_alloc]; exact Nat.le_succ_of_le HBX.out.size) (fun j hj => (by have := (HOX.out.lt j hj).1; omega))); have HS6 := Lib.hid (Nat.le_trans (by rw [World.size_alloc]; have := HSX.out; omega) hgrow.size : w.heap.size + 1 ≤ w6.heap.size); have HO6 := Lib.hid hown6; have HX6 := Lib.hid ((hgrow.block w.heap.size (by rw [World.size_alloc]; have := HSX.out; omega) (fun e => (by have := (HOX.out.lt _ e.symm).1; omega))).trans ((Below.heap_alloc _ _ _ (by have := HSX.out; omega)).trans HXX.out)); clear hgrow hown6)
        go_roundw
        case rel => exact ⟨t + 1, y, by omega, rfl, hy, HNX, by go_num, (by rw [HTK.out, List.map_append]; exact HO6.out), HS6.out, HX6.out, HB6.out⟩
        case measure => simp [intOf]; omega
      · have hmI : ¬ (1 : Int) < (m : Int) := by omega
        obtain ⟨y, HYK⟩ : ∃ y, Hid (k = y) := ⟨_, rfl⟩
        have HNX : Hid (sigV Ws i (t + 1) = y) := Lib.hid (by rw [HNX.out, goB_stay (by rw [HM.out]; exact hm), HYK.out])
        have hy : y < Ws.length := by rw [← HYK.out]; exact hk
        go_wp2_with fail
        refine HC.out.mono ?_
        rintro e w1 ⟨rfl, hb⟩
        have HBX := Lib.hid (HBW.out.trans (hb.mono HBW.out.size))
        have HOX := Lib.hid (own_below HO.out hb HSZ.out)
        have HSX := Lib.hid (Nat.le_trans HSZ.out hb.size)
        have HXX := Lib.hid ((hb.block w.heap.size (by have := HSZ.out; omega)).trans HXB.out)
        rw [HYK.out]
        clear hb
        obtain ⟨L, hL, hl, hxL⟩ := cell_at HE.out hy hlt
        obtain ⟨_, _, _, e, hgy, uy, by0, rfl, dy, hIy⟩ := way_at (waysAt_on HVV.out HBX.out) hL
        injection e with e1 e2 e3
        injection e1 with e1
        injection e1 with e1
        subst e1
        clear e2 e3
        obtain ⟨_, _, e, HIy⟩ := ints_form hIy
        injection e with e1 _ e3
        subst e1 e3
        rcases HIy with h | ⟨py, rfl, hpy, hpcy⟩
        · omega
        obtain ⟨z, HZ⟩ : ∃ z, Hid ((colL Ws (t + 1)).getD y 0 = z) := ⟨_, rfl⟩
        rw [HZ.out] at hxL
        have dz := hpcy (t + 1) z hxL
        have hyI : (y : Int) < (Ws.length : Int) := by omega
        have htI : ((t + 1 : Nat) : Int) < (L.length : Int) := by omega
        have hwt : IntKind.i64.wrap ((t : Int) + 1) = ((t + 1 : Nat) : Int) := by rw [IntWalk.i64_in _ (by omega)]; omega
        have HTK : Hid ((stayV Ws i).take (t + 1 + 1) = (stayV Ws i).take (t + 1) ++ [z]) := Lib.hid (by rw [stay_take hlt, HNX.out, HZ.out])
        clear hL hl hxL hIy hpcy
        go_wp2_with (at_builtin; refine wpList_append_own _ rfl _ _ 26 rfl (w.heap.size + 1) 3 i0 (.int .i64 0) 1 8 Tryz.underlying26 hif hz0 hz1 hz2 rfl (by decide) _ _ _ rfl (HOX.out.alloc _) ⟨_, 0, none⟩ 1 1 ([z].map (Value.int .i64)) rfl rfl (int_new _ _ _) (ints_one _) (by unfold maxLen; omega) (by omega) (by rw [World.size_alloc]; have := HSX.out; omega) ?_; intro v' w6 hown6 hgrow _; have HB6 := Lib.hid ((HBX.out.alloc HBX.out.size _).grown hgrow (by rw [World.size_alloc]; exact Nat.le_succ_of_le HBX.out.size) (fun j hj => (by have := (HOX.out.lt j hj).1; omega))); have HS6 := Lib.hid (Nat.le_trans (by rw [World.size_alloc]; have := HSX.out; omega) hgrow.size : w.heap.size + 1 ≤ w6.heap.size); have HO6 := Lib.hid hown6; have HX6 := Lib.hid ((hgrow.block w.heap.size (by rw [World.size_alloc]; have := HSX.out; omega) (fun e => (by have := (HOX.out.lt _ e.symm).1; omega))).trans ((Below.heap_alloc _ _ _ (by have := HSX.out; omega)).trans HXX.out)); clear hgrow hown6)
        go_roundw
        case rel => exact ⟨t + 1, y, by omega, rfl, hy, HNX, by go_num, (by rw [HTK.out, List.map_append]; exact HO6.out), HS6.out, HX6.out, HB6.out⟩
        case measure => simp [intOf]; omega
    · have hnl : ¬ (t : Int) < (L0.length : Int) - 1 := by rw [HL0.out]; omega
      have hl : (stayV Ws i).take (t + 1) = stayV Ws i := List.take_of_length_le (by rw [stay_len]; omega)
      have hln : (stayV Ws i).length = t + 1 := by rw [stay_len]; omega
      rw [hl] at hown
      obtain ⟨ac, cc, rfl⟩ := own_form hown
      have r0 : wr.cell? ⟨w.heap.size, 0, none⟩ = some (.slice none 0 0) := by rw [cell_of_row _ _ _ _ _ _ hbx]; rfl
      have z0 : wr.frozen? ⟨w.heap.size, 0, none⟩ = false := by simp [World.frozen?, hbx]
      have HO := Lib.hid hown
      have HB := Lib.hid hB
      have HLN := Lib.hid hln
      clear hown hB hbx hl hln
      go_wp2_with fail
      refine bodyPost_ret (v := .agg #[.slice ac (t + 1) cc]) (by simp [results, Tryz.results31, go_sem, r0]) rfl ⟨_, rfl, ?_, ?_⟩
      · rw [HLN.out]
        exact own_base (own_put1 HO.out (r := w.heap.size) (i := 0) (u := .slice ac (t + 1) cc) (by omega)) (by omega)
      · exact HB.out.setCell (by simp) _

end Go.Proofs.YtkbfbifepaoojaaGreatDoor

