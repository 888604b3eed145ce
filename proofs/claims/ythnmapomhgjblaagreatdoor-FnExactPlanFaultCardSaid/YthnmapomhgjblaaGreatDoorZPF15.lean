/-
  CONTRACT of spec.PlanFault. No law is proved here.
-/
import Derived.Test.YthnmapomhgjblaaGreatDoorZPF08
import Derived.Test.YthnmapomhgjblaaGreatDoorZPF09
import Derived.Test.YthnmapomhgjblaaGreatDoorZPF11
import Derived.Test.YthnmapomhgjblaaGreatDoorZPF12
import Derived.Test.YthnmapomhgjblaaGreatDoorZPF14
import Derived.Deep.RegionHeld3
import Derived.Deep.RegionWith
import Derived.BigRegion
namespace Go.Proofs.YthnmapomhgjblaaGreatDoor
set_option maxRecDepth 4096
open Go.ChangeShapes Go.WideShapes Go.ChangeAt Go.RowKit

/-! ### plain facts -/
section
variable {W H : Int} {C : ByteArray} {S G : List Int} {T M : Int} {Ws : List (List Int)}
theorem askS_small (h : askV W H C S G T = true) : ∃ t : Nat, T = (t : Int) ∧ t ≤ 20 ∧ ∀ (i : Nat) c, S[i]? = some c → freeV W H C c = true := by
  unfold askV at h
  simp only [Bool.and_eq_true] at h
  obtain ⟨_, _, _, h4, h5, _, _⟩ := h
  obtain ⟨h1, h2⟩ := rgB_iff.1 h4
  exact ⟨T.toNat, by omega, by omega, fun i c hc => (asc_iff.1 h5 i c (List.getElem?_eq_some_iff.1 hc).1 hc).1⟩
theorem planS_ask {t : Nat} (h : askV W H C S G (t : Int) = true) : planV W H C S G t M Ws = if formV S t Ws = false then 2 else if stepsV W H C Ws = false then 3 else if crossV Ws t = 0 then endV G M Ws else crossV Ws t := by
  unfold planV
  rw [h, Int.toNat_natCast]
  exact if_neg (by decide)
/-- What is not free is beside nothing. -/
theorem not_beside {x y : Int} (h : freeV W H C x = false) : (aroundL W H C y).contains x = false := by
  cases e : (aroundL W H C y).contains x with
  | false => rfl
  | true =>
    have := (mem_around.1 (List.contains_iff_mem.1 e)).2.1
    rw [h] at this
    cases this
theorem stepB_not {L : List Int} {k : Nat} {x y : Int} (hk : 0 < k) (hx : L[k]? = some x) (hy : L[k - 1]? = some y) (hfx : freeV W H C x = false) (hfy : freeV W H C y = true) : stepB W H C L k = false := by
  rw [stepB_at hk hx hy, not_beside hfx, decide_eq_false (fun e => by rw [e, hfy] at hfx; cases hfx)]
  rfl
/-- The test of one code at one time. -/
def codeF (Ws : List (List Int)) (c t : Nat) : Bool := if c = 4 then meetV Ws (t : Int) else if c = 5 then decide (0 < swapsV Ws (t : Int)) else decide (0 < ringsV Ws (t : Int))
theorem cross_at {c t : Nat} {T : Nat} (hc : 4 ≤ c ∧ c ≤ 6) (ht : t < T) (h : codeF Ws c t = true) (hb : ∀ d, 4 ≤ d → d < c → ∀ s, s < T → codeF Ws d s = false) : crossV Ws T = c := by
  have h4 : c ≠ 4 → anyT (fun t => meetV Ws (t : Int)) T = false := fun hn => anyT_no fun s hs => hb 4 (by omega) (by omega) s hs
  have h5 : c = 6 → anyT (fun t => decide (0 < swapsV Ws (t : Int))) T = false := fun hn => anyT_no fun s hs => hb 5 (by omega) (by omega) s hs
  unfold crossV
  obtain rfl | rfl | rfl : c = 4 ∨ c = 5 ∨ c = 6 := by omega
  · rw [anyT_yes (f := fun t => meetV Ws (t : Int)) ht h]; rfl
  · rw [h4 (by decide), anyT_yes (f := fun t => decide (0 < swapsV Ws (t : Int))) ht h]; rfl
  · rw [h4 (by decide), h5 rfl, anyT_yes (f := fun t => decide (0 < ringsV Ws (t : Int))) ht h]; rfl
theorem cross_none {T : Nat} (hb : ∀ d, 4 ≤ d → d < 7 → ∀ s, s < T → codeF Ws d s = false) : crossV Ws T = 0 := by
  unfold crossV
  rw [anyT_no (f := fun t => meetV Ws (t : Int)) fun s hs => hb 4 (by omega) (by omega) s hs, anyT_no (f := fun t => decide (0 < swapsV Ws (t : Int))) fun s hs => hb 5 (by omega) (by omega) s hs,
    anyT_no (f := fun t => decide (0 < ringsV Ws (t : Int))) fun s hs => hb 6 (by omega) (by omega) s hs]
  rfl
theorem endS_no {j : Nat} {d : Int} (hd : G[j]? = some d) (h : (onceL (lastsL Ws)).contains d = false) : endV G M Ws = 7 := by
  unfold endV
  refine if_pos ?_
  cases e : G.all fun d => (onceL (lastsL Ws)).contains d with
  | false => rfl
  | true =>
    have := List.all_eq_true.1 e d (List.mem_of_getElem? hd)
    rw [h] at this
    cases this
theorem endS_yes (h : ∀ (j : Nat) d, G[j]? = some d → (onceL (lastsL Ws)).contains d = true) : endV G M Ws = if M ≠ (movesW Ws : Int) then 8 else 0 := by
  unfold endV
  refine if_neg ?_
  have : (G.all fun d => (onceL (lastsL Ws)).contains d) = true := List.all_eq_true.2 fun d hd => by
    obtain ⟨j, hj, rfl⟩ := List.getElem_of_mem hd
    exact h j _ (List.getElem?_eq_getElem hj)
  rw [this]
  decide
end

/-- Two boxes: a grid's and a plan's. -/
theorem two_cellsS {w w1 : World} {a b c d e f : Value} {t u : TypeId} (h : Below ((w.alloc (.cells #[a, b, c] t)).alloc (.cells #[d, e, f] u)).heap.size ((w.alloc (.cells #[a, b, c] t)).alloc (.cells #[d, e, f] u)) w1) :
    Below w.heap.size w w1 ∧ w1.cell? ⟨w.heap.size, 0, none⟩ = some a ∧ w1.cell? ⟨w.heap.size, 1, none⟩ = some b ∧ w1.cell? ⟨w.heap.size, 2, none⟩ = some c ∧ w1.cell? ⟨w.heap.size + 1, 0, none⟩ = some d ∧ w1.cell? ⟨w.heap.size + 1, 1, none⟩ = some e ∧ w1.cell? ⟨w.heap.size + 1, 2, none⟩ = some f := by
  have h1 : Below (w.alloc (.cells #[a, b, c] t)).heap.size (w.alloc (.cells #[a, b, c] t)) w1 := boxed_below h
  obtain ⟨p0, p1, p2⟩ := pair_cellsS h1
  obtain ⟨q0, q1, q2⟩ := pair_cellsS h
  rw [World.size_alloc] at q0 q1 q2
  exact ⟨boxed_below h1, p0, p1, p2, q0, q1, q2⟩

/-- The grid's box and two cells of a way, while a call goes on. -/
theorem held_one {w w' w'' : World} {a b c d e f : Value} {t u : TypeId} {q k : Nat} {x : Value} (h : Below ((w.alloc (.cells #[a, b, c] t)).alloc (.cells #[d, e, f] u)).heap.size ((w.alloc (.cells #[a, b, c] t)).alloc (.cells #[d, e, f] u)) w') (hb : Below w'.heap.size w' w'') (hx : w'.cell? ⟨q, k, none⟩ = some x) (hq : q < w.heap.size) :
    w''.cell? ⟨w.heap.size, 0, none⟩ = some a ∧ w''.cell? ⟨w.heap.size, 1, none⟩ = some b ∧ w''.cell? ⟨w.heap.size, 2, none⟩ = some c ∧ w''.cell? ⟨q, k, none⟩ = some x ∧ Below ((w.alloc (.cells #[a, b, c] t)).alloc (.cells #[d, e, f] u)).heap.size ((w.alloc (.cells #[a, b, c] t)).alloc (.cells #[d, e, f] u)) w'' := by
  have h2 := h.trans (hb.mono h.size)
  obtain ⟨h3, p0, p1, p2, _⟩ := two_cellsS h2
  have h4 := (two_cellsS h).1.size
  exact ⟨p0, p1, p2, (hb.cell (p := ⟨q, k, none⟩) (by dsimp only; omega)).trans hx, h2⟩
theorem held_two {w w' w'' : World} {a b c d e f : Value} {t u : TypeId} {q k l : Nat} {x y : Value} (h : Below ((w.alloc (.cells #[a, b, c] t)).alloc (.cells #[d, e, f] u)).heap.size ((w.alloc (.cells #[a, b, c] t)).alloc (.cells #[d, e, f] u)) w') (hb : Below w'.heap.size w' w'') (hx : w'.cell? ⟨q, k, none⟩ = some x) (hy : w'.cell? ⟨q, l, none⟩ = some y) (hq : q < w.heap.size) :
    w''.cell? ⟨w.heap.size, 0, none⟩ = some a ∧ w''.cell? ⟨w.heap.size, 1, none⟩ = some b ∧ w''.cell? ⟨w.heap.size, 2, none⟩ = some c ∧ w''.cell? ⟨q, k, none⟩ = some x ∧ w''.cell? ⟨q, l, none⟩ = some y ∧ Below ((w.alloc (.cells #[a, b, c] t)).alloc (.cells #[d, e, f] u)).heap.size ((w.alloc (.cells #[a, b, c] t)).alloc (.cells #[d, e, f] u)) w'' := by
  obtain ⟨h1, h2, h3, h4, h5⟩ := held_one h hb hx hq
  have h6 := (two_cellsS h).1.size
  exact ⟨h1, h2, h3, h4, (hb.cell (p := ⟨q, l, none⟩) (by dsimp only; omega)).trans hy, h5⟩

set_option maxHeartbeats 8000000 in
theorem specPlanFault (W H : Int) (C : ByteArray) (S G : List Int) (T M : Int) (Ws : List (List Int)) (vs vg v : Value) (c : Nat) (hC : C.size ≤ 1048576) (hSl : S.length ≤ 2000000) (hG : G.length ≤ 2000000) (hW : Ws.length ≤ 2000000) (hT : totW Ws ≤ 2000000) (HX : Hid (planV W H C S G T M Ws = c)) (w : World) (hs : Ints w vs S) (hg : Ints w vg G) (hv : WaysAt w v Ws) :
    Calls Tryz.prog 15 #[.agg #[.int .i64 W, .int .i64 H, .string C], vs, vg, .agg #[.int .i64 T, .int .i64 M, v]] w (Made w (.int .i64 (c : Int))) := by
  obtain ⟨a, HA⟩ : ∃ a, Hid (askV W H C S G T = a) := ⟨_, rfl⟩
  have hB := Below.refl ((w.alloc (.cells #[.int .i64 W, .int .i64 H, .string C] 25)).alloc (.cells #[.int .i64 T, .int .i64 M, v] 29)).heap.size ((w.alloc (.cells #[.int .i64 W, .int .i64 H, .string C] 25)).alloc (.cells #[.int .i64 T, .int .i64 M, v] 29))
  have HB0 := Lib.hid hB
  have HAC : Hid (∀ wr, Below w.heap.size w wr → Calls Tryz.prog 30 #[.agg #[.int .i64 W, .int .i64 H, .string C], vs, vg, .int .i64 T] wr (Made wr (.bool a))) := Lib.hid fun wr hb => specAsk W H C S G T vs vg a hC hSl hG HA wr (ints_on hs hb) (ints_on hg hb)
  have HSS := Lib.hid hs
  have HGG := Lib.hid hg
  have HVV := Lib.hid hv
  have HT := Lib.hid hT
  obtain ⟨hb, c0, c1, c2, p0, p1, p2⟩ := two_cellsS hB
  obtain ⟨as1, cs, rfl, _⟩ := ints_form hs
  obtain ⟨ag, cg, rfl, _⟩ := ints_form hg
  obtain ⟨av, cv, rfl, _⟩ := hv
  clear hs hg hT hB hb
  cases a with
  | false =>
    obtain rfl : c = 1 := by rw [← HX.out]; unfold planV; rw [HA.out]; rfl
    go_enter Tryz.func15, Tryz.ntmps15
    go_wp2_with fail
    refine (HAC.out _ (two_cellsS HB0.out).1).mono ?_
    rintro e w1 ⟨rfl, hb⟩
    have hB1 := (two_cellsS (chain HB0.out hb)).1
    go_wp2_with fail
    go_ret
    exact ⟨rfl, hB1⟩
  | true =>
    obtain ⟨t, rfl, ht, hfree⟩ := askS_small HA.out
    have HFR := Lib.hid hfree
    obtain ⟨f, HF⟩ : ∃ f, Hid (formV S t Ws = f) := ⟨_, rfl⟩
    have HFC : Hid (∀ wr, Below w.heap.size w wr → Calls Tryz.prog 31 #[.slice as1 S.length cs, .agg #[.int .i64 (t : Int), .int .i64 M, .slice av Ws.length cv]] wr (Made wr (.bool f))) := Lib.hid fun wr hb => specForm _ _ S Ws t M f ht hSl hW HT.out HF wr (ints_on HSS.out hb) (waysAt_on HVV.out hb)
    have HPA := Lib.hid (planS_ask (M := M) (Ws := Ws) HA.out)
    clear hfree
    go_enter Tryz.func15, Tryz.ntmps15
    go_wp2_with fail
    refine (HAC.out _ (two_cellsS HB0.out).1).mono ?_
    rintro e w1 ⟨rfl, hb⟩
    have HB1 := Lib.hid (chain HB0.out hb)
    clear c0 c1 c2 p0 p1 p2 hb HB0 HAC
    obtain ⟨_, c0, c1, c2, p0, p1, p2⟩ := two_cellsS HB1.out
    go_wp2_with fail
    refine (HFC.out _ (two_cellsS HB1.out).1).mono ?_
    rintro e w2 ⟨rfl, hb⟩
    have HB2 := Lib.hid (HB1.out.trans (hb.mono HB1.out.size))
    clear c0 c1 c2 p0 p1 p2 hb HB1 HFC
    cases f with
    | false =>
      obtain rfl : c = 2 := by rw [← HX.out, HPA.out, HF.out]; rfl
      go_wp2_with fail
      go_ret
      exact ⟨rfl, (two_cellsS HB2.out).1⟩
    | true =>
      have HXX : Hid ((if stepsV W H C Ws = false then 3 else if crossV Ws t = 0 then endV G M Ws else crossV Ws t) = c) := Lib.hid (by
        rw [← HX.out, HPA.out, HF.out]
        exact (if_neg (by decide)).symm)
      have HFO : Hid (∀ (i : Nat) (L : List Int) (d : Int), Ws[i]? = some L → S[i]? = some d → L.length = t + 1 ∧ L[0]? = some d) := Lib.hid fun i L d hL hd => by
        have h := HF.out
        unfold formV at h
        rw [Bool.and_eq_true, List.all_eq_true] at h
        have h2 := h.2 i (List.mem_range.2 (List.getElem?_eq_some_iff.1 hL).1)
        rw [okI_at hL hd, Bool.and_eq_true, decide_eq_true_eq, decide_eq_true_eq] at h2
        exact h2
      have HLN : Hid (Ws.length = S.length) := Lib.hid (by
        have h := HF.out
        unfold formV at h
        rw [Bool.and_eq_true, decide_eq_true_eq] at h
        exact h.1)
      clear HX HPA HF
      go_wp2_with fail
      go_loopw [9, 10, 11] (fun i _ _ wr => ∃ j : Nat, j ≤ Ws.length ∧ i = .int .i64 (j : Int) ∧ Hid (∀ (k : Nat) L, k < j → Ws[k]? = some L → wayB W H C L = true) ∧ Below ((w.alloc (.cells #[.int .i64 W, .int .i64 H, .string C] 25)).alloc (.cells #[.int .i64 (t : Int), .int .i64 M, .slice av Ws.length cv] 29)).heap.size ((w.alloc (.cells #[.int .i64 W, .int .i64 H, .string C] 25)).alloc (.cells #[.int .i64 (t : Int), .int .i64 M, .slice av Ws.length cv] 29)) wr) (fun i _ _ _ => Ws.length - (intOf i).toNat)
      case atStart => exact ⟨0, Nat.zero_le _, rfl, Lib.hid fun k L h => absurd h (by omega), HB2.out⟩
      case round =>
        clear HB2
        obtain ⟨j, hj, rfl, HK, hB⟩ := hrel
        have HBr := Lib.hid hB
        obtain ⟨_, c0, c1, c2, p0, p1, p2⟩ := two_cellsS hB
        by_cases hlt : j < Ws.length
        · have hlt2 : (j : Int) < (Ws.length : Int) := by omega
          obtain ⟨L, hx⟩ : ∃ L, Ws[j]? = some L := ⟨_, List.getElem?_eq_getElem hlt⟩
          obtain ⟨d, hd⟩ : ∃ d, S[j]? = some d := ⟨_, List.getElem?_eq_getElem (by have := HLN.out; omega)⟩
          obtain ⟨hl1, hl0⟩ := HFO.out j L d hx hd
          have HD := Lib.hid hl0
          have HDF := Lib.hid (HFR.out j d hd)
          obtain ⟨g, au, _, e, hg, u, bu, rfl, d1, hI⟩ := way_at HVV.out hx
          injection e with e1 e2 e3
          subst e1
          clear e2 e3
          have hbw := (two_cellsS hB).1
          replace d1 := (hbw.cell (p := ⟨g, j, none⟩) hg).trans d1
          have hlen0 : 0 < L.length := by omega
          obtain ⟨_, _, e, HIL⟩ := ints_form hI
          injection e with e1 e2 e3
          subst e1
          clear e2 e3
          have hIw : ∃ q, au = some ⟨q, 0, none⟩ ∧ q < w.heap.size ∧ ∀ (j : Nat) x, L[j]? = some x → w.cell? ⟨q, j, none⟩ = some (.int .i64 x) := by
            rcases HIL with h0 | h
            · omega
            · exact h
          obtain ⟨q, e, hq, hqc⟩ := hIw
          subst e
          have HQC := Lib.hid hqc
          have HXL := Lib.hid hx
          have hl20 : L.length ≤ 2000000 := by omega
          clear hx hd hl0 hI HIL hqc hbw hB hl1
          go_wp2_with fail
          go_loopw [11] (fun i wx => ∃ k : Nat, k ≤ L.length ∧ i = .int .i64 (k : Int) ∧ Hid (∀ m, m < k → stepB W H C L m = true) ∧ Hid (∀ (m : Nat) x, m < k → L[m]? = some x → freeV W H C x = true) ∧ Below ((w.alloc (.cells #[.int .i64 W, .int .i64 H, .string C] 25)).alloc (.cells #[.int .i64 (t : Int), .int .i64 M, .slice (some ⟨g, 0, none⟩) Ws.length cv] 29)).heap.size ((w.alloc (.cells #[.int .i64 W, .int .i64 H, .string C] 25)).alloc (.cells #[.int .i64 (t : Int), .int .i64 M, .slice (some ⟨g, 0, none⟩) Ws.length cv] 29)) wx) (fun i _ => L.length - (intOf i).toNat)
          case atStart => exact ⟨0, Nat.zero_le _, rfl, Lib.hid fun m h => absurd h (by omega), Lib.hid fun m x h => absurd h (by omega), HBr.out⟩
          case round =>
            obtain ⟨k, hk, rfl, HM, HFM, hBx⟩ := hrel
            obtain ⟨hbw, c0, c1, c2, p0, p1, p2⟩ := two_cellsS hBx
            have HBX := Lib.hid hBx
            by_cases hlk : k < L.length
            · have hlk2 : (k : Int) < (L.length : Int) := by omega
              obtain ⟨x, hx⟩ : ∃ x, L[k]? = some x := ⟨_, List.getElem?_eq_getElem hlk⟩
              have dx := (hbw.cell (p := ⟨q, k, none⟩) hq).trans (HQC.out k x hx)
              have HXK := Lib.hid hx
              clear hx d1 p0 p1 p2
              by_cases hk0 : k = 0
              · have HK0 := Lib.hid hk0
                have hkd : decide ((0 : Int) < (k : Int)) = false := by simp; omega
                have hkd2 : decide (0 < k) = false := by simp; omega
                have hkd3 : ¬ 0 < k := by omega
                have hfx : freeV W H C x = true := by
                  have := HXK.out
                  rw [HK0.out, HD.out] at this
                  cases this
                  exact HDF.out
                have HFXT := Lib.hid hfx
                obtain ⟨fx, HFX⟩ : ∃ fx, Hid (freeV W H C x = fx) := ⟨_, rfl⟩
                obtain rfl : fx = true := by rw [← HFX.out]; exact hfx
                clear hfx
                have hS0 : wr.drew.cell? ⟨w.heap.size, 0, none⟩ = some (.int .i64 W) ∧ wr.drew.cell? ⟨w.heap.size, 1, none⟩ = some (.int .i64 H) ∧ wr.drew.cell? ⟨w.heap.size, 2, none⟩ = some (.string C) ∧ wr.drew.cell? ⟨q, k, none⟩ = some (.int .i64 x) ∧ Below ((w.alloc (.cells #[.int .i64 W, .int .i64 H, .string C] 25)).alloc (.cells #[.int .i64 (t : Int), .int .i64 M, .slice (some ⟨g, 0, none⟩) Ws.length cv] 29)).heap.size ((w.alloc (.cells #[.int .i64 W, .int .i64 H, .string C] 25)).alloc (.cells #[.int .i64 (t : Int), .int .i64 M, .slice (some ⟨g, 0, none⟩) Ws.length cv] 29)) wr.drew := ⟨c0, c1, c2, dx, HBX.out.drew⟩
                clear c0 c1 c2 dx hbw hBx hk0
                go_upto_region 12 with fail
                refine wp_region_held_drew (S := fun w' => w'.cell? ⟨w.heap.size, 0, none⟩ = some (.int .i64 W) ∧ w'.cell? ⟨w.heap.size, 1, none⟩ = some (.int .i64 H) ∧ w'.cell? ⟨w.heap.size, 2, none⟩ = some (.string C) ∧ w'.cell? ⟨q, k, none⟩ = some (.int .i64 x) ∧ Below ((w.alloc (.cells #[.int .i64 W, .int .i64 H, .string C] 25)).alloc (.cells #[.int .i64 (t : Int), .int .i64 M, .slice (some ⟨g, 0, none⟩) Ws.length cv] 29)).heap.size ((w.alloc (.cells #[.int .i64 W, .int .i64 H, .string C] 25)).alloc (.cells #[.int .i64 (t : Int), .int .i64 M, .slice (some ⟨g, 0, none⟩) Ws.length cv] 29)) w') (by kernel_rfl) hS0 (fun hHeld => ?_)
                try simp only [List.append_eq, List.cons_append, List.nil_append]
                refine wpAnyH_take (i := 0) (oi := _) (v := .agg #[.int .i64 W, .int .i64 H, .string C]) rfl (by kernel_rfl) (by kernel_rfl) (by kernel_rfl) (fun _ _ _ h => h) (Or.inl ⟨by rfl, ?_⟩) (by assumption) ?_
                focus (intro w' hSw; (try dsimp only at hSw); go_split_ands; simp only [List.getElem_toArray, List.getElem_cons_zero]; go_simp; done)
                simp only [List.getElem_toArray, List.getElem_cons_zero, Act.put, List.setIfInBounds_toArray, List.set_cons_zero, List.set_cons_succ]
                refine wpAnyH_take (i := 1) (oi := _) (v := .slice (some ⟨q, 0, none⟩) L.length bu) rfl (by kernel_rfl) (by kernel_rfl) (by kernel_rfl) (fun _ _ _ h => h) (Or.inl ⟨by rfl, ?_⟩) (by assumption) ?_
                focus (intro w' hSw; (try dsimp only at hSw); go_split_ands; simp only [List.getElem_toArray, List.getElem_cons_succ, List.getElem_cons_zero]; go_simp; done)
                simp only [List.getElem_toArray, List.getElem_cons_succ, List.getElem_cons_zero, Act.put, List.setIfInBounds_toArray, List.set_cons_zero, List.set_cons_succ]
                refine wpAnyH_take (i := 2) (oi := _) (v := .int .i64 (k : Int)) rfl (by kernel_rfl) (by kernel_rfl) (by kernel_rfl) (fun _ _ _ h => h) (Or.inl ⟨by rfl, ?_⟩) (by assumption) ?_
                focus (intro w' hSw; (try dsimp only at hSw); go_split_ands; simp only [List.getElem_toArray, List.getElem_cons_succ, List.getElem_cons_zero]; go_simp; done)
                simp only [List.getElem_toArray, List.getElem_cons_succ, List.getElem_cons_zero, Act.put, List.setIfInBounds_toArray, List.set_cons_zero, List.set_cons_succ]
                refine wpAnyH_take (i := 3) (oi := _) (v := .pointer (some ⟨q, k, none⟩)) rfl (by kernel_rfl) (by kernel_rfl) (by kernel_rfl) (fun _ _ _ h => h) (Or.inl ⟨by rfl, ?_⟩) (by assumption) ?_
                focus (intro w' hSw; (try dsimp only at hSw); go_split_ands; simp only [List.getElem_toArray, List.getElem_cons_succ, List.getElem_cons_zero]; go_simp; done)
                simp only [List.getElem_toArray, List.getElem_cons_succ, List.getElem_cons_zero, Act.put, List.setIfInBounds_toArray, List.set_cons_zero, List.set_cons_succ]
                refine wpAnyH_take (i := 4) (oi := _) (v := .int .i64 x) rfl (by kernel_rfl) (by kernel_rfl) (by kernel_rfl) (fun _ _ _ h => h) (Or.inl ⟨by rfl, ?_⟩) (by assumption) ?_
                focus (intro w' hSw; (try dsimp only at hSw); go_split_ands; simp only [List.getElem_toArray, List.getElem_cons_succ, List.getElem_cons_zero]; go_simp; done)
                simp only [List.getElem_toArray, List.getElem_cons_succ, List.getElem_cons_zero, Act.put, List.setIfInBounds_toArray, List.set_cons_zero, List.set_cons_succ]
                refine wpAnyH_ready (rs := [5]) (by kernel_rfl) (by simp) ?_
                refine AllReadyH.cons rfl (fun K hK => ?_) AllReadyH.nil
                simp only [List.getElem_toArray, List.getElem_cons_succ, List.getElem_cons_zero]
                go_simp
                go_at_call 32
                have hB5 : Below ((w.alloc (.cells #[.int .i64 W, .int .i64 H, .string C] 25)).alloc (.cells #[.int .i64 (t : Int), .int .i64 M, .slice (some ⟨g, 0, none⟩) Ws.length cv] 29)).heap.size ((w.alloc (.cells #[.int .i64 W, .int .i64 H, .string C] 25)).alloc (.cells #[.int .i64 (t : Int), .int .i64 M, .slice (some ⟨g, 0, none⟩) Ws.length cv] 29)) _ := hHeld.2.2.2.2
                refine (specFreeTo W H C x true hC HFX _).mono ?_
                rintro e w9 ⟨rfl, hb⟩
                have hS5 := held_one (k := k) (x := .int .i64 x) hB5 hb hHeld.2.2.2.1 hq
                clear hb hHeld
                refine hK.out _ _ hS5 (fun hHeld => ?_)
                clear hK K hS5
                refine wpAnyH_take (i := 6) (oi := _) (v := .bool false) rfl (by kernel_rfl) (by kernel_rfl) (by kernel_rfl) (fun _ _ _ h => h) (Or.inl ⟨by rfl, ?_⟩) (by assumption) ?_
                focus (intro w' hSw; (try dsimp only at hSw); go_split_ands; simp only [List.getElem_toArray, List.getElem_cons_succ, List.getElem_cons_zero]; go_simp; done)
                simp only [List.getElem_toArray, List.getElem_cons_succ, List.getElem_cons_zero, Act.put, List.setIfInBounds_toArray, List.set_cons_zero, List.set_cons_succ]
                refine wpAnyH_take (i := 7) (oi := _) (v := .bool false) rfl (by kernel_rfl) (by kernel_rfl) (by kernel_rfl) (fun _ _ _ h => h) (Or.inl ⟨by rfl, ?_⟩) (by assumption) ?_
                focus (intro w' hSw; (try dsimp only at hSw); go_split_ands; simp only [List.getElem_toArray, List.getElem_cons_succ, List.getElem_cons_zero]; go_simp; done)
                simp only [List.getElem_toArray, List.getElem_cons_succ, List.getElem_cons_zero, Act.put, List.setIfInBounds_toArray, List.set_cons_zero, List.set_cons_succ]
                refine wpAnyH_take (i := 8) (oi := _) (v := .int .i64 (k : Int)) rfl (by kernel_rfl) (by kernel_rfl) (by kernel_rfl) (fun _ _ _ h => h) (Or.inl ⟨by rfl, ?_⟩) (by assumption) ?_
                focus (intro w' hSw; (try dsimp only at hSw); go_split_ands; simp only [List.getElem_toArray, List.getElem_cons_succ, List.getElem_cons_zero]; go_simp; done)
                simp only [List.getElem_toArray, List.getElem_cons_succ, List.getElem_cons_zero, Act.put, List.setIfInBounds_toArray, List.set_cons_zero, List.set_cons_succ]
                refine wpAnyH_take (i := 9) (oi := _) (v := .bool false) rfl (by kernel_rfl) (by kernel_rfl) (by kernel_rfl) (fun _ _ _ h => h) (Or.inl ⟨by rfl, ?_⟩) (by assumption) ?_
                focus (intro w' hSw; (try dsimp only at hSw); go_split_ands; simp only [List.getElem_toArray, List.getElem_cons_succ, List.getElem_cons_zero]; go_simp; done)
                simp only [List.getElem_toArray, List.getElem_cons_succ, List.getElem_cons_zero, Act.put, List.setIfInBounds_toArray, List.set_cons_zero, List.set_cons_succ]
                refine wpAnyH_take (i := 10) (oi := _) (v := .bool false) rfl (by kernel_rfl) (by kernel_rfl) (by kernel_rfl) (fun _ _ _ h => h) (Or.inl ⟨by rfl, ?_⟩) (by assumption) ?_
                focus (intro w' hSw; (try dsimp only at hSw); go_split_ands; simp only [List.getElem_toArray, List.getElem_cons_succ, List.getElem_cons_zero]; go_simp; done)
                simp only [List.getElem_toArray, List.getElem_cons_succ, List.getElem_cons_zero, Act.put, List.setIfInBounds_toArray, List.set_cons_zero, List.set_cons_succ]
                refine wpAnyH_take (i := 11) (oi := _) (v := undef) rfl (by kernel_rfl) (by kernel_rfl) (by kernel_rfl) (fun _ _ _ h => h) (Or.inr ⟨by rfl, rfl⟩) (by assumption) ?_
                simp only [List.getElem_toArray, List.getElem_cons_succ, List.getElem_cons_zero, Act.put, List.setIfInBounds_toArray, List.set_cons_zero, List.set_cons_succ]
                refine wpAnyH_take (i := 12) (oi := _) (v := undef) rfl (by kernel_rfl) (by kernel_rfl) (by kernel_rfl) (fun _ _ _ h => h) (Or.inr ⟨by rfl, rfl⟩) (by assumption) ?_
                simp only [List.getElem_toArray, List.getElem_cons_succ, List.getElem_cons_zero, Act.put, List.setIfInBounds_toArray, List.set_cons_zero, List.set_cons_succ]
                refine wpAnyH_take (i := 13) (oi := _) (v := undef) rfl (by kernel_rfl) (by kernel_rfl) (by kernel_rfl) (fun _ _ _ h => h) (Or.inr ⟨by rfl, rfl⟩) (by assumption) ?_
                simp only [List.getElem_toArray, List.getElem_cons_succ, List.getElem_cons_zero, Act.put, List.setIfInBounds_toArray, List.set_cons_zero, List.set_cons_succ]
                refine wpAnyH_take (i := 14) (oi := _) (v := undef) rfl (by kernel_rfl) (by kernel_rfl) (by kernel_rfl) (fun _ _ _ h => h) (Or.inr ⟨by rfl, rfl⟩) (by assumption) ?_
                simp only [List.getElem_toArray, List.getElem_cons_succ, List.getElem_cons_zero, Act.put, List.setIfInBounds_toArray, List.set_cons_zero, List.set_cons_succ]
                refine wpAnyH_take (i := 15) (oi := _) (v := undef) rfl (by kernel_rfl) (by kernel_rfl) (by kernel_rfl) (fun _ _ _ h => h) (Or.inr ⟨by rfl, rfl⟩) (by assumption) ?_
                simp only [List.getElem_toArray, List.getElem_cons_succ, List.getElem_cons_zero, Act.put, List.setIfInBounds_toArray, List.set_cons_zero, List.set_cons_succ]
                refine wpAnyH_take (i := 16) (oi := _) (v := undef) rfl (by kernel_rfl) (by kernel_rfl) (by kernel_rfl) (fun _ _ _ h => h) (Or.inr ⟨by rfl, rfl⟩) (by assumption) ?_
                simp only [List.getElem_toArray, List.getElem_cons_succ, List.getElem_cons_zero, Act.put, List.setIfInBounds_toArray, List.set_cons_zero, List.set_cons_succ]
                refine wpAnyH_take (i := 17) (oi := _) (v := undef) rfl (by kernel_rfl) (by kernel_rfl) (by kernel_rfl) (fun _ _ _ h => h) (Or.inr ⟨by rfl, rfl⟩) (by assumption) ?_
                simp only [List.getElem_toArray, List.getElem_cons_succ, List.getElem_cons_zero, Act.put, List.setIfInBounds_toArray, List.set_cons_zero, List.set_cons_succ]
                refine wpAnyH_take (i := 18) (oi := _) (v := undef) rfl (by kernel_rfl) (by kernel_rfl) (by kernel_rfl) (fun _ _ _ h => h) (Or.inr ⟨by rfl, rfl⟩) (by assumption) ?_
                simp only [List.getElem_toArray, List.getElem_cons_succ, List.getElem_cons_zero, Act.put, List.setIfInBounds_toArray, List.set_cons_zero, List.set_cons_succ]
                refine wpAnyH_take (i := 19) (oi := _) (v := undef) rfl (by kernel_rfl) (by kernel_rfl) (by kernel_rfl) (fun _ _ _ h => h) (Or.inr ⟨by rfl, rfl⟩) (by assumption) ?_
                simp only [List.getElem_toArray, List.getElem_cons_succ, List.getElem_cons_zero, Act.put, List.setIfInBounds_toArray, List.set_cons_zero, List.set_cons_succ]
                refine wpAnyH_take (i := 20) (oi := _) (v := undef) rfl (by kernel_rfl) (by kernel_rfl) (by kernel_rfl) (fun _ _ _ h => h) (Or.inr ⟨by rfl, rfl⟩) (by assumption) ?_
                simp only [List.getElem_toArray, List.getElem_cons_succ, List.getElem_cons_zero, Act.put, List.setIfInBounds_toArray, List.set_cons_zero, List.set_cons_succ]
                refine wpAnyH_take (i := 21) (oi := _) (v := .bool false) rfl (by kernel_rfl) (by kernel_rfl) (by kernel_rfl) (fun _ _ _ h => h) (Or.inl ⟨by rfl, ?_⟩) (by assumption) ?_
                focus (intro w' hSw; (try dsimp only at hSw); go_split_ands; simp only [List.getElem_toArray, List.getElem_cons_succ, List.getElem_cons_zero]; go_simp; done)
                simp only [List.getElem_toArray, List.getElem_cons_succ, List.getElem_cons_zero, Act.put, List.setIfInBounds_toArray, List.set_cons_zero, List.set_cons_succ]
                refine wpAnyH_take (i := 22) (oi := _) (v := .bool false) rfl (by kernel_rfl) (by kernel_rfl) (by kernel_rfl) (fun _ _ _ h => h) (Or.inl ⟨by rfl, ?_⟩) (by assumption) ?_
                focus (intro w' hSw; (try dsimp only at hSw); go_split_ands; simp only [List.getElem_toArray, List.getElem_cons_succ, List.getElem_cons_zero]; go_simp; done)
                simp only [List.getElem_toArray, List.getElem_cons_succ, List.getElem_cons_zero, Act.put, List.setIfInBounds_toArray, List.set_cons_zero, List.set_cons_succ]
                refine wpAnyH_take (i := 23) (oi := _) (v := undef) rfl (by kernel_rfl) (by kernel_rfl) (by kernel_rfl) (fun _ _ _ h => h) (Or.inr ⟨by rfl, rfl⟩) (by assumption) ?_
                simp only [List.getElem_toArray, List.getElem_cons_succ, List.getElem_cons_zero, Act.put, List.setIfInBounds_toArray, List.set_cons_zero, List.set_cons_succ]
                refine wpAnyH_take (i := 24) (oi := _) (v := undef) rfl (by kernel_rfl) (by kernel_rfl) (by kernel_rfl) (fun _ _ _ h => h) (Or.inr ⟨by rfl, rfl⟩) (by assumption) ?_
                simp only [List.getElem_toArray, List.getElem_cons_succ, List.getElem_cons_zero, Act.put, List.setIfInBounds_toArray, List.set_cons_zero, List.set_cons_succ]
                refine wpAnyH_take (i := 25) (oi := _) (v := undef) rfl (by kernel_rfl) (by kernel_rfl) (by kernel_rfl) (fun _ _ _ h => h) (Or.inr ⟨by rfl, rfl⟩) (by assumption) ?_
                simp only [List.getElem_toArray, List.getElem_cons_succ, List.getElem_cons_zero, Act.put, List.setIfInBounds_toArray, List.set_cons_zero, List.set_cons_succ]
                refine wpAnyH_take (i := 26) (oi := _) (v := undef) rfl (by kernel_rfl) (by kernel_rfl) (by kernel_rfl) (fun _ _ _ h => h) (Or.inr ⟨by rfl, rfl⟩) (by assumption) ?_
                simp only [List.getElem_toArray, List.getElem_cons_succ, List.getElem_cons_zero, Act.put, List.setIfInBounds_toArray, List.set_cons_zero, List.set_cons_succ]
                refine wpAnyH_take (i := 27) (oi := _) (v := undef) rfl (by kernel_rfl) (by kernel_rfl) (by kernel_rfl) (fun _ _ _ h => h) (Or.inr ⟨by rfl, rfl⟩) (by assumption) ?_
                simp only [List.getElem_toArray, List.getElem_cons_succ, List.getElem_cons_zero, Act.put, List.setIfInBounds_toArray, List.set_cons_zero, List.set_cons_succ]
                refine wpAnyH_take (i := 28) (oi := _) (v := undef) rfl (by kernel_rfl) (by kernel_rfl) (by kernel_rfl) (fun _ _ _ h => h) (Or.inr ⟨by rfl, rfl⟩) (by assumption) ?_
                simp only [List.getElem_toArray, List.getElem_cons_succ, List.getElem_cons_zero, Act.put, List.setIfInBounds_toArray, List.set_cons_zero, List.set_cons_succ]
                refine wpAnyH_take (i := 29) (oi := _) (v := undef) rfl (by kernel_rfl) (by kernel_rfl) (by kernel_rfl) (fun _ _ _ h => h) (Or.inr ⟨by rfl, rfl⟩) (by assumption) ?_
                simp only [List.getElem_toArray, List.getElem_cons_succ, List.getElem_cons_zero, Act.put, List.setIfInBounds_toArray, List.set_cons_zero, List.set_cons_succ]
                refine wpAnyH_take (i := 30) (oi := _) (v := undef) rfl (by kernel_rfl) (by kernel_rfl) (by kernel_rfl) (fun _ _ _ h => h) (Or.inr ⟨by rfl, rfl⟩) (by assumption) ?_
                simp only [List.getElem_toArray, List.getElem_cons_succ, List.getElem_cons_zero, Act.put, List.setIfInBounds_toArray, List.set_cons_zero, List.set_cons_succ]
                refine wpAnyH_take (i := 31) (oi := _) (v := undef) rfl (by kernel_rfl) (by kernel_rfl) (by kernel_rfl) (fun _ _ _ h => h) (Or.inr ⟨by rfl, rfl⟩) (by assumption) ?_
                simp only [List.getElem_toArray, List.getElem_cons_succ, List.getElem_cons_zero, Act.put, List.setIfInBounds_toArray, List.set_cons_zero, List.set_cons_succ]
                refine wpAnyH_take (i := 32) (oi := _) (v := undef) rfl (by kernel_rfl) (by kernel_rfl) (by kernel_rfl) (fun _ _ _ h => h) (Or.inr ⟨by rfl, rfl⟩) (by assumption) ?_
                simp only [List.getElem_toArray, List.getElem_cons_succ, List.getElem_cons_zero, Act.put, List.setIfInBounds_toArray, List.set_cons_zero, List.set_cons_succ]
                refine wpAnyH_take (i := 33) (oi := _) (v := undef) rfl (by kernel_rfl) (by kernel_rfl) (by kernel_rfl) (fun _ _ _ h => h) (Or.inr ⟨by rfl, rfl⟩) (by assumption) ?_
                simp only [List.getElem_toArray, List.getElem_cons_succ, List.getElem_cons_zero, Act.put, List.setIfInBounds_toArray, List.set_cons_zero, List.set_cons_succ]
                refine wpAnyH_take (i := 34) (oi := _) (v := undef) rfl (by kernel_rfl) (by kernel_rfl) (by kernel_rfl) (fun _ _ _ h => h) (Or.inr ⟨by rfl, rfl⟩) (by assumption) ?_
                simp only [List.getElem_toArray, List.getElem_cons_succ, List.getElem_cons_zero, Act.put, List.setIfInBounds_toArray, List.set_cons_zero, List.set_cons_succ]
                refine wpAnyH_take (i := 35) (oi := _) (v := .bool false) rfl (by kernel_rfl) (by kernel_rfl) (by kernel_rfl) (fun _ _ _ h => h) (Or.inl ⟨by rfl, ?_⟩) (by assumption) ?_
                focus (intro w' hSw; (try dsimp only at hSw); go_split_ands; simp only [List.getElem_toArray, List.getElem_cons_succ, List.getElem_cons_zero]; go_simp; done)
                simp only [List.getElem_toArray, List.getElem_cons_succ, List.getElem_cons_zero, Act.put, List.setIfInBounds_toArray, List.set_cons_zero, List.set_cons_succ]
                refine wpAnyH_take (i := 36) (oi := _) (v := .bool false) rfl (by kernel_rfl) (by kernel_rfl) (by kernel_rfl) (fun _ _ _ h => h) (Or.inl ⟨by rfl, ?_⟩) (by assumption) ?_
                focus (intro w' hSw; (try dsimp only at hSw); go_split_ands; simp only [List.getElem_toArray, List.getElem_cons_succ, List.getElem_cons_zero]; go_simp; done)
                simp only [List.getElem_toArray, List.getElem_cons_succ, List.getElem_cons_zero, Act.put, List.setIfInBounds_toArray, List.set_cons_zero, List.set_cons_succ]
                refine wpAnyH_done (by kernel_rfl) ?_ _
                have HBE := Lib.hid hHeld.2.2.2.2
                clear hHeld hS0
                go_wp2_with fail
                go_roundw
                case rel => exact ⟨k + 1, by omega, by go_num, Lib.hid fun m hm => (by
                  obtain rfl : m = 0 := by have := HK0.out; omega
                  exact stepB_zero), Lib.hid fun m z hm hz => (by
                  obtain rfl : m = k := by have := HK0.out; omega
                  rw [HXK.out] at hz
                  cases hz
                  exact HFXT.out), HBE.out⟩
                case measure => simp [intOf]; omega
              · obtain ⟨y, hy⟩ : ∃ y, L[k - 1]? = some y := ⟨_, List.getElem?_eq_getElem (by omega)⟩
                have dy := (hbw.cell (p := ⟨q, k - 1, none⟩) hq).trans (HQC.out (k - 1) y hy)
                have HFY := Lib.hid (HFM.out (k - 1) y (by omega) hy)
                have HSTB := Lib.hid (stepB_at (W := W) (H := H) (C := C) (by omega) HXK.out hy)
                have HYK := Lib.hid hy
                have hk00 : (0 : Int) < (k : Int) := by omega
                have hk01 : 0 < k := by omega
                have hwk : IntKind.i64.wrap ((k : Int) - 1) = ((k - 1 : Nat) : Int) := by rw [IntWalk.i64_in _ (by omega)]; omega
                have hl4 : ((k - 1 : Nat) : Int) < (L.length : Int) := by omega
                obtain ⟨fx, HFX⟩ : ∃ fx, Hid (freeV W H C x = fx) := ⟨_, rfl⟩
                clear hy
                have hS0 : wr.drew.cell? ⟨w.heap.size, 0, none⟩ = some (.int .i64 W) ∧ wr.drew.cell? ⟨w.heap.size, 1, none⟩ = some (.int .i64 H) ∧ wr.drew.cell? ⟨w.heap.size, 2, none⟩ = some (.string C) ∧ wr.drew.cell? ⟨q, k, none⟩ = some (.int .i64 x) ∧ wr.drew.cell? ⟨q, k - 1, none⟩ = some (.int .i64 y) ∧ Below ((w.alloc (.cells #[.int .i64 W, .int .i64 H, .string C] 25)).alloc (.cells #[.int .i64 (t : Int), .int .i64 M, .slice (some ⟨g, 0, none⟩) Ws.length cv] 29)).heap.size ((w.alloc (.cells #[.int .i64 W, .int .i64 H, .string C] 25)).alloc (.cells #[.int .i64 (t : Int), .int .i64 M, .slice (some ⟨g, 0, none⟩) Ws.length cv] 29)) wr.drew := ⟨c0, c1, c2, dx, dy, HBX.out.drew⟩
                clear c0 c1 c2 dx dy hbw hBx
                cases fx with
                | false =>
                  have hsb : stepB W H C L k = false := stepB_not (by omega) HXK.out HYK.out HFX.out HFY.out
                  obtain rfl : c = 3 := by rw [← HXX.out, stepsV_no HXL.out (wayB_no hlk hsb)]; rfl
                  clear hsb
                  go_upto_region 12 with fail
                  refine wp_region_held_drew (S := fun w' => w'.cell? ⟨w.heap.size, 0, none⟩ = some (.int .i64 W) ∧ w'.cell? ⟨w.heap.size, 1, none⟩ = some (.int .i64 H) ∧ w'.cell? ⟨w.heap.size, 2, none⟩ = some (.string C) ∧ w'.cell? ⟨q, k, none⟩ = some (.int .i64 x) ∧ w'.cell? ⟨q, k - 1, none⟩ = some (.int .i64 y) ∧ Below ((w.alloc (.cells #[.int .i64 W, .int .i64 H, .string C] 25)).alloc (.cells #[.int .i64 (t : Int), .int .i64 M, .slice (some ⟨g, 0, none⟩) Ws.length cv] 29)).heap.size ((w.alloc (.cells #[.int .i64 W, .int .i64 H, .string C] 25)).alloc (.cells #[.int .i64 (t : Int), .int .i64 M, .slice (some ⟨g, 0, none⟩) Ws.length cv] 29)) w') (by kernel_rfl) hS0 (fun hHeld => ?_)
                  try simp only [List.append_eq, List.cons_append, List.nil_append]
                  refine wpAnyH_take (i := 0) (oi := _) (v := .agg #[.int .i64 W, .int .i64 H, .string C]) rfl (by kernel_rfl) (by kernel_rfl) (by kernel_rfl) (fun _ _ _ h => h) (Or.inl ⟨by rfl, ?_⟩) (by assumption) ?_
                  focus (intro w' hSw; (try dsimp only at hSw); go_split_ands; simp only [List.getElem_toArray, List.getElem_cons_zero]; go_simp; done)
                  simp only [List.getElem_toArray, List.getElem_cons_zero, Act.put, List.setIfInBounds_toArray, List.set_cons_zero, List.set_cons_succ]
                  refine wpAnyH_take (i := 1) (oi := _) (v := .slice (some ⟨q, 0, none⟩) L.length bu) rfl (by kernel_rfl) (by kernel_rfl) (by kernel_rfl) (fun _ _ _ h => h) (Or.inl ⟨by rfl, ?_⟩) (by assumption) ?_
                  focus (intro w' hSw; (try dsimp only at hSw); go_split_ands; simp only [List.getElem_toArray, List.getElem_cons_succ, List.getElem_cons_zero]; go_simp; done)
                  simp only [List.getElem_toArray, List.getElem_cons_succ, List.getElem_cons_zero, Act.put, List.setIfInBounds_toArray, List.set_cons_zero, List.set_cons_succ]
                  refine wpAnyH_take (i := 2) (oi := _) (v := .int .i64 (k : Int)) rfl (by kernel_rfl) (by kernel_rfl) (by kernel_rfl) (fun _ _ _ h => h) (Or.inl ⟨by rfl, ?_⟩) (by assumption) ?_
                  focus (intro w' hSw; (try dsimp only at hSw); go_split_ands; simp only [List.getElem_toArray, List.getElem_cons_succ, List.getElem_cons_zero]; go_simp; done)
                  simp only [List.getElem_toArray, List.getElem_cons_succ, List.getElem_cons_zero, Act.put, List.setIfInBounds_toArray, List.set_cons_zero, List.set_cons_succ]
                  refine wpAnyH_take (i := 3) (oi := _) (v := .pointer (some ⟨q, k, none⟩)) rfl (by kernel_rfl) (by kernel_rfl) (by kernel_rfl) (fun _ _ _ h => h) (Or.inl ⟨by rfl, ?_⟩) (by assumption) ?_
                  focus (intro w' hSw; (try dsimp only at hSw); go_split_ands; simp only [List.getElem_toArray, List.getElem_cons_succ, List.getElem_cons_zero]; go_simp; done)
                  simp only [List.getElem_toArray, List.getElem_cons_succ, List.getElem_cons_zero, Act.put, List.setIfInBounds_toArray, List.set_cons_zero, List.set_cons_succ]
                  refine wpAnyH_take (i := 4) (oi := _) (v := .int .i64 x) rfl (by kernel_rfl) (by kernel_rfl) (by kernel_rfl) (fun _ _ _ h => h) (Or.inl ⟨by rfl, ?_⟩) (by assumption) ?_
                  focus (intro w' hSw; (try dsimp only at hSw); go_split_ands; simp only [List.getElem_toArray, List.getElem_cons_succ, List.getElem_cons_zero]; go_simp; done)
                  simp only [List.getElem_toArray, List.getElem_cons_succ, List.getElem_cons_zero, Act.put, List.setIfInBounds_toArray, List.set_cons_zero, List.set_cons_succ]
                  refine wpAnyH_ready (rs := [5]) (by kernel_rfl) (by simp) ?_
                  refine AllReadyH.cons rfl (fun K hK => ?_) AllReadyH.nil
                  simp only [List.getElem_toArray, List.getElem_cons_succ, List.getElem_cons_zero]
                  go_simp
                  go_at_call 32
                  have hB5 : Below ((w.alloc (.cells #[.int .i64 W, .int .i64 H, .string C] 25)).alloc (.cells #[.int .i64 (t : Int), .int .i64 M, .slice (some ⟨g, 0, none⟩) Ws.length cv] 29)).heap.size ((w.alloc (.cells #[.int .i64 W, .int .i64 H, .string C] 25)).alloc (.cells #[.int .i64 (t : Int), .int .i64 M, .slice (some ⟨g, 0, none⟩) Ws.length cv] 29)) _ := hHeld.2.2.2.2.2
                  refine (specFreeTo W H C x false hC HFX _).mono ?_
                  rintro e w9 ⟨rfl, hb⟩
                  have hS5 := held_two (k := k) (l := k - 1) (x := .int .i64 x) (y := .int .i64 y) hB5 hb hHeld.2.2.2.1 hHeld.2.2.2.2.1 hq
                  clear hb hHeld
                  refine hK.out _ _ hS5 (fun hHeld => ?_)
                  clear hK K hS5
                  refine wpAnyH_take (i := 6) (oi := _) (v := .bool true) rfl (by kernel_rfl) (by kernel_rfl) (by kernel_rfl) (fun _ _ _ h => h) (Or.inl ⟨by rfl, ?_⟩) (by assumption) ?_
                  focus (intro w' hSw; (try dsimp only at hSw); go_split_ands; simp only [List.getElem_toArray, List.getElem_cons_succ, List.getElem_cons_zero]; go_simp; done)
                  simp only [List.getElem_toArray, List.getElem_cons_succ, List.getElem_cons_zero, Act.put, List.setIfInBounds_toArray, List.set_cons_zero, List.set_cons_succ]
                  refine wpAnyH_take (i := 7) (oi := _) (v := .bool true) rfl (by kernel_rfl) (by kernel_rfl) (by kernel_rfl) (fun _ _ _ h => h) (Or.inl ⟨by rfl, ?_⟩) (by assumption) ?_
                  focus (intro w' hSw; (try dsimp only at hSw); go_split_ands; simp only [List.getElem_toArray, List.getElem_cons_succ, List.getElem_cons_zero]; go_simp; done)
                  simp only [List.getElem_toArray, List.getElem_cons_succ, List.getElem_cons_zero, Act.put, List.setIfInBounds_toArray, List.set_cons_zero, List.set_cons_succ]
                  refine wpAnyH_take (i := 8) (oi := _) (v := undef) rfl (by kernel_rfl) (by kernel_rfl) (by kernel_rfl) (fun _ _ _ h => h) (Or.inr ⟨by rfl, rfl⟩) (by assumption) ?_
                  simp only [List.getElem_toArray, List.getElem_cons_succ, List.getElem_cons_zero, Act.put, List.setIfInBounds_toArray, List.set_cons_zero, List.set_cons_succ]
                  refine wpAnyH_take (i := 9) (oi := _) (v := undef) rfl (by kernel_rfl) (by kernel_rfl) (by kernel_rfl) (fun _ _ _ h => h) (Or.inr ⟨by rfl, rfl⟩) (by assumption) ?_
                  simp only [List.getElem_toArray, List.getElem_cons_succ, List.getElem_cons_zero, Act.put, List.setIfInBounds_toArray, List.set_cons_zero, List.set_cons_succ]
                  refine wpAnyH_take (i := 10) (oi := _) (v := undef) rfl (by kernel_rfl) (by kernel_rfl) (by kernel_rfl) (fun _ _ _ h => h) (Or.inr ⟨by rfl, rfl⟩) (by assumption) ?_
                  simp only [List.getElem_toArray, List.getElem_cons_succ, List.getElem_cons_zero, Act.put, List.setIfInBounds_toArray, List.set_cons_zero, List.set_cons_succ]
                  refine wpAnyH_take (i := 11) (oi := _) (v := undef) rfl (by kernel_rfl) (by kernel_rfl) (by kernel_rfl) (fun _ _ _ h => h) (Or.inr ⟨by rfl, rfl⟩) (by assumption) ?_
                  simp only [List.getElem_toArray, List.getElem_cons_succ, List.getElem_cons_zero, Act.put, List.setIfInBounds_toArray, List.set_cons_zero, List.set_cons_succ]
                  refine wpAnyH_take (i := 12) (oi := _) (v := undef) rfl (by kernel_rfl) (by kernel_rfl) (by kernel_rfl) (fun _ _ _ h => h) (Or.inr ⟨by rfl, rfl⟩) (by assumption) ?_
                  simp only [List.getElem_toArray, List.getElem_cons_succ, List.getElem_cons_zero, Act.put, List.setIfInBounds_toArray, List.set_cons_zero, List.set_cons_succ]
                  refine wpAnyH_take (i := 13) (oi := _) (v := undef) rfl (by kernel_rfl) (by kernel_rfl) (by kernel_rfl) (fun _ _ _ h => h) (Or.inr ⟨by rfl, rfl⟩) (by assumption) ?_
                  simp only [List.getElem_toArray, List.getElem_cons_succ, List.getElem_cons_zero, Act.put, List.setIfInBounds_toArray, List.set_cons_zero, List.set_cons_succ]
                  refine wpAnyH_take (i := 14) (oi := _) (v := undef) rfl (by kernel_rfl) (by kernel_rfl) (by kernel_rfl) (fun _ _ _ h => h) (Or.inr ⟨by rfl, rfl⟩) (by assumption) ?_
                  simp only [List.getElem_toArray, List.getElem_cons_succ, List.getElem_cons_zero, Act.put, List.setIfInBounds_toArray, List.set_cons_zero, List.set_cons_succ]
                  refine wpAnyH_take (i := 15) (oi := _) (v := undef) rfl (by kernel_rfl) (by kernel_rfl) (by kernel_rfl) (fun _ _ _ h => h) (Or.inr ⟨by rfl, rfl⟩) (by assumption) ?_
                  simp only [List.getElem_toArray, List.getElem_cons_succ, List.getElem_cons_zero, Act.put, List.setIfInBounds_toArray, List.set_cons_zero, List.set_cons_succ]
                  refine wpAnyH_take (i := 16) (oi := _) (v := undef) rfl (by kernel_rfl) (by kernel_rfl) (by kernel_rfl) (fun _ _ _ h => h) (Or.inr ⟨by rfl, rfl⟩) (by assumption) ?_
                  simp only [List.getElem_toArray, List.getElem_cons_succ, List.getElem_cons_zero, Act.put, List.setIfInBounds_toArray, List.set_cons_zero, List.set_cons_succ]
                  refine wpAnyH_take (i := 17) (oi := _) (v := undef) rfl (by kernel_rfl) (by kernel_rfl) (by kernel_rfl) (fun _ _ _ h => h) (Or.inr ⟨by rfl, rfl⟩) (by assumption) ?_
                  simp only [List.getElem_toArray, List.getElem_cons_succ, List.getElem_cons_zero, Act.put, List.setIfInBounds_toArray, List.set_cons_zero, List.set_cons_succ]
                  refine wpAnyH_take (i := 18) (oi := _) (v := undef) rfl (by kernel_rfl) (by kernel_rfl) (by kernel_rfl) (fun _ _ _ h => h) (Or.inr ⟨by rfl, rfl⟩) (by assumption) ?_
                  simp only [List.getElem_toArray, List.getElem_cons_succ, List.getElem_cons_zero, Act.put, List.setIfInBounds_toArray, List.set_cons_zero, List.set_cons_succ]
                  refine wpAnyH_take (i := 19) (oi := _) (v := undef) rfl (by kernel_rfl) (by kernel_rfl) (by kernel_rfl) (fun _ _ _ h => h) (Or.inr ⟨by rfl, rfl⟩) (by assumption) ?_
                  simp only [List.getElem_toArray, List.getElem_cons_succ, List.getElem_cons_zero, Act.put, List.setIfInBounds_toArray, List.set_cons_zero, List.set_cons_succ]
                  refine wpAnyH_take (i := 20) (oi := _) (v := undef) rfl (by kernel_rfl) (by kernel_rfl) (by kernel_rfl) (fun _ _ _ h => h) (Or.inr ⟨by rfl, rfl⟩) (by assumption) ?_
                  simp only [List.getElem_toArray, List.getElem_cons_succ, List.getElem_cons_zero, Act.put, List.setIfInBounds_toArray, List.set_cons_zero, List.set_cons_succ]
                  refine wpAnyH_take (i := 21) (oi := _) (v := undef) rfl (by kernel_rfl) (by kernel_rfl) (by kernel_rfl) (fun _ _ _ h => h) (Or.inr ⟨by rfl, rfl⟩) (by assumption) ?_
                  simp only [List.getElem_toArray, List.getElem_cons_succ, List.getElem_cons_zero, Act.put, List.setIfInBounds_toArray, List.set_cons_zero, List.set_cons_succ]
                  refine wpAnyH_take (i := 22) (oi := _) (v := undef) rfl (by kernel_rfl) (by kernel_rfl) (by kernel_rfl) (fun _ _ _ h => h) (Or.inr ⟨by rfl, rfl⟩) (by assumption) ?_
                  simp only [List.getElem_toArray, List.getElem_cons_succ, List.getElem_cons_zero, Act.put, List.setIfInBounds_toArray, List.set_cons_zero, List.set_cons_succ]
                  refine wpAnyH_take (i := 23) (oi := _) (v := undef) rfl (by kernel_rfl) (by kernel_rfl) (by kernel_rfl) (fun _ _ _ h => h) (Or.inr ⟨by rfl, rfl⟩) (by assumption) ?_
                  simp only [List.getElem_toArray, List.getElem_cons_succ, List.getElem_cons_zero, Act.put, List.setIfInBounds_toArray, List.set_cons_zero, List.set_cons_succ]
                  refine wpAnyH_take (i := 24) (oi := _) (v := undef) rfl (by kernel_rfl) (by kernel_rfl) (by kernel_rfl) (fun _ _ _ h => h) (Or.inr ⟨by rfl, rfl⟩) (by assumption) ?_
                  simp only [List.getElem_toArray, List.getElem_cons_succ, List.getElem_cons_zero, Act.put, List.setIfInBounds_toArray, List.set_cons_zero, List.set_cons_succ]
                  refine wpAnyH_take (i := 25) (oi := _) (v := undef) rfl (by kernel_rfl) (by kernel_rfl) (by kernel_rfl) (fun _ _ _ h => h) (Or.inr ⟨by rfl, rfl⟩) (by assumption) ?_
                  simp only [List.getElem_toArray, List.getElem_cons_succ, List.getElem_cons_zero, Act.put, List.setIfInBounds_toArray, List.set_cons_zero, List.set_cons_succ]
                  refine wpAnyH_take (i := 26) (oi := _) (v := undef) rfl (by kernel_rfl) (by kernel_rfl) (by kernel_rfl) (fun _ _ _ h => h) (Or.inr ⟨by rfl, rfl⟩) (by assumption) ?_
                  simp only [List.getElem_toArray, List.getElem_cons_succ, List.getElem_cons_zero, Act.put, List.setIfInBounds_toArray, List.set_cons_zero, List.set_cons_succ]
                  refine wpAnyH_take (i := 27) (oi := _) (v := undef) rfl (by kernel_rfl) (by kernel_rfl) (by kernel_rfl) (fun _ _ _ h => h) (Or.inr ⟨by rfl, rfl⟩) (by assumption) ?_
                  simp only [List.getElem_toArray, List.getElem_cons_succ, List.getElem_cons_zero, Act.put, List.setIfInBounds_toArray, List.set_cons_zero, List.set_cons_succ]
                  refine wpAnyH_take (i := 28) (oi := _) (v := undef) rfl (by kernel_rfl) (by kernel_rfl) (by kernel_rfl) (fun _ _ _ h => h) (Or.inr ⟨by rfl, rfl⟩) (by assumption) ?_
                  simp only [List.getElem_toArray, List.getElem_cons_succ, List.getElem_cons_zero, Act.put, List.setIfInBounds_toArray, List.set_cons_zero, List.set_cons_succ]
                  refine wpAnyH_take (i := 29) (oi := _) (v := undef) rfl (by kernel_rfl) (by kernel_rfl) (by kernel_rfl) (fun _ _ _ h => h) (Or.inr ⟨by rfl, rfl⟩) (by assumption) ?_
                  simp only [List.getElem_toArray, List.getElem_cons_succ, List.getElem_cons_zero, Act.put, List.setIfInBounds_toArray, List.set_cons_zero, List.set_cons_succ]
                  refine wpAnyH_take (i := 30) (oi := _) (v := undef) rfl (by kernel_rfl) (by kernel_rfl) (by kernel_rfl) (fun _ _ _ h => h) (Or.inr ⟨by rfl, rfl⟩) (by assumption) ?_
                  simp only [List.getElem_toArray, List.getElem_cons_succ, List.getElem_cons_zero, Act.put, List.setIfInBounds_toArray, List.set_cons_zero, List.set_cons_succ]
                  refine wpAnyH_take (i := 31) (oi := _) (v := undef) rfl (by kernel_rfl) (by kernel_rfl) (by kernel_rfl) (fun _ _ _ h => h) (Or.inr ⟨by rfl, rfl⟩) (by assumption) ?_
                  simp only [List.getElem_toArray, List.getElem_cons_succ, List.getElem_cons_zero, Act.put, List.setIfInBounds_toArray, List.set_cons_zero, List.set_cons_succ]
                  refine wpAnyH_take (i := 32) (oi := _) (v := undef) rfl (by kernel_rfl) (by kernel_rfl) (by kernel_rfl) (fun _ _ _ h => h) (Or.inr ⟨by rfl, rfl⟩) (by assumption) ?_
                  simp only [List.getElem_toArray, List.getElem_cons_succ, List.getElem_cons_zero, Act.put, List.setIfInBounds_toArray, List.set_cons_zero, List.set_cons_succ]
                  refine wpAnyH_take (i := 33) (oi := _) (v := undef) rfl (by kernel_rfl) (by kernel_rfl) (by kernel_rfl) (fun _ _ _ h => h) (Or.inr ⟨by rfl, rfl⟩) (by assumption) ?_
                  simp only [List.getElem_toArray, List.getElem_cons_succ, List.getElem_cons_zero, Act.put, List.setIfInBounds_toArray, List.set_cons_zero, List.set_cons_succ]
                  refine wpAnyH_take (i := 34) (oi := _) (v := undef) rfl (by kernel_rfl) (by kernel_rfl) (by kernel_rfl) (fun _ _ _ h => h) (Or.inr ⟨by rfl, rfl⟩) (by assumption) ?_
                  simp only [List.getElem_toArray, List.getElem_cons_succ, List.getElem_cons_zero, Act.put, List.setIfInBounds_toArray, List.set_cons_zero, List.set_cons_succ]
                  refine wpAnyH_take (i := 35) (oi := _) (v := undef) rfl (by kernel_rfl) (by kernel_rfl) (by kernel_rfl) (fun _ _ _ h => h) (Or.inr ⟨by rfl, rfl⟩) (by assumption) ?_
                  simp only [List.getElem_toArray, List.getElem_cons_succ, List.getElem_cons_zero, Act.put, List.setIfInBounds_toArray, List.set_cons_zero, List.set_cons_succ]
                  refine wpAnyH_take (i := 36) (oi := _) (v := .bool true) rfl (by kernel_rfl) (by kernel_rfl) (by kernel_rfl) (fun _ _ _ h => h) (Or.inl ⟨by rfl, ?_⟩) (by assumption) ?_
                  focus (intro w' hSw; (try dsimp only at hSw); go_split_ands; simp only [List.getElem_toArray, List.getElem_cons_succ, List.getElem_cons_zero]; go_simp; done)
                  simp only [List.getElem_toArray, List.getElem_cons_succ, List.getElem_cons_zero, Act.put, List.setIfInBounds_toArray, List.set_cons_zero, List.set_cons_succ]
                  refine wpAnyH_done (by kernel_rfl) ?_ _
                  have HBE := Lib.hid hHeld.2.2.2.2.2
                  clear hHeld hS0
                  go_wp2_with fail
                  go_ret
                  exact ⟨rfl, (two_cellsS HBE.out).1⟩
                | true =>
                  by_cases hxy : x = y
                  · subst hxy
                    have hb : (x != x) = false := by simp
                    have HSB : Hid (stepB W H C L k = true) := Lib.hid (by rw [HSTB.out]; simp)
                    obtain ⟨r, HR⟩ : ∃ r, Hid ((aroundL W H C x).contains x = r) := ⟨_, rfl⟩
                    go_upto_region 12 with fail
                    refine wp_region_held_drew (S := fun w' => w'.cell? ⟨w.heap.size, 0, none⟩ = some (.int .i64 W) ∧ w'.cell? ⟨w.heap.size, 1, none⟩ = some (.int .i64 H) ∧ w'.cell? ⟨w.heap.size, 2, none⟩ = some (.string C) ∧ w'.cell? ⟨q, k, none⟩ = some (.int .i64 x) ∧ w'.cell? ⟨q, k - 1, none⟩ = some (.int .i64 x) ∧ Below ((w.alloc (.cells #[.int .i64 W, .int .i64 H, .string C] 25)).alloc (.cells #[.int .i64 (t : Int), .int .i64 M, .slice (some ⟨g, 0, none⟩) Ws.length cv] 29)).heap.size ((w.alloc (.cells #[.int .i64 W, .int .i64 H, .string C] 25)).alloc (.cells #[.int .i64 (t : Int), .int .i64 M, .slice (some ⟨g, 0, none⟩) Ws.length cv] 29)) w') (by kernel_rfl) hS0 (fun hHeld => ?_)
                    try simp only [List.append_eq, List.cons_append, List.nil_append]
                    refine wpAnyH_take (i := 0) (oi := _) (v := .agg #[.int .i64 W, .int .i64 H, .string C]) rfl (by kernel_rfl) (by kernel_rfl) (by kernel_rfl) (fun _ _ _ h => h) (Or.inl ⟨by rfl, ?_⟩) (by assumption) ?_
                    focus (intro w' hSw; (try dsimp only at hSw); go_split_ands; simp only [List.getElem_toArray, List.getElem_cons_zero]; go_simp; done)
                    simp only [List.getElem_toArray, List.getElem_cons_zero, Act.put, List.setIfInBounds_toArray, List.set_cons_zero, List.set_cons_succ]
                    refine wpAnyH_take (i := 1) (oi := _) (v := .slice (some ⟨q, 0, none⟩) L.length bu) rfl (by kernel_rfl) (by kernel_rfl) (by kernel_rfl) (fun _ _ _ h => h) (Or.inl ⟨by rfl, ?_⟩) (by assumption) ?_
                    focus (intro w' hSw; (try dsimp only at hSw); go_split_ands; simp only [List.getElem_toArray, List.getElem_cons_succ, List.getElem_cons_zero]; go_simp; done)
                    simp only [List.getElem_toArray, List.getElem_cons_succ, List.getElem_cons_zero, Act.put, List.setIfInBounds_toArray, List.set_cons_zero, List.set_cons_succ]
                    refine wpAnyH_take (i := 2) (oi := _) (v := .int .i64 (k : Int)) rfl (by kernel_rfl) (by kernel_rfl) (by kernel_rfl) (fun _ _ _ h => h) (Or.inl ⟨by rfl, ?_⟩) (by assumption) ?_
                    focus (intro w' hSw; (try dsimp only at hSw); go_split_ands; simp only [List.getElem_toArray, List.getElem_cons_succ, List.getElem_cons_zero]; go_simp; done)
                    simp only [List.getElem_toArray, List.getElem_cons_succ, List.getElem_cons_zero, Act.put, List.setIfInBounds_toArray, List.set_cons_zero, List.set_cons_succ]
                    refine wpAnyH_take (i := 3) (oi := _) (v := .pointer (some ⟨q, k, none⟩)) rfl (by kernel_rfl) (by kernel_rfl) (by kernel_rfl) (fun _ _ _ h => h) (Or.inl ⟨by rfl, ?_⟩) (by assumption) ?_
                    focus (intro w' hSw; (try dsimp only at hSw); go_split_ands; simp only [List.getElem_toArray, List.getElem_cons_succ, List.getElem_cons_zero]; go_simp; done)
                    simp only [List.getElem_toArray, List.getElem_cons_succ, List.getElem_cons_zero, Act.put, List.setIfInBounds_toArray, List.set_cons_zero, List.set_cons_succ]
                    refine wpAnyH_take (i := 4) (oi := _) (v := .int .i64 x) rfl (by kernel_rfl) (by kernel_rfl) (by kernel_rfl) (fun _ _ _ h => h) (Or.inl ⟨by rfl, ?_⟩) (by assumption) ?_
                    focus (intro w' hSw; (try dsimp only at hSw); go_split_ands; simp only [List.getElem_toArray, List.getElem_cons_succ, List.getElem_cons_zero]; go_simp; done)
                    simp only [List.getElem_toArray, List.getElem_cons_succ, List.getElem_cons_zero, Act.put, List.setIfInBounds_toArray, List.set_cons_zero, List.set_cons_succ]
                    refine wpAnyH_ready (rs := [5]) (by kernel_rfl) (by simp) ?_
                    refine AllReadyH.cons rfl (fun K hK => ?_) AllReadyH.nil
                    simp only [List.getElem_toArray, List.getElem_cons_succ, List.getElem_cons_zero]
                    go_simp
                    go_at_call 32
                    have hB5 : Below ((w.alloc (.cells #[.int .i64 W, .int .i64 H, .string C] 25)).alloc (.cells #[.int .i64 (t : Int), .int .i64 M, .slice (some ⟨g, 0, none⟩) Ws.length cv] 29)).heap.size ((w.alloc (.cells #[.int .i64 W, .int .i64 H, .string C] 25)).alloc (.cells #[.int .i64 (t : Int), .int .i64 M, .slice (some ⟨g, 0, none⟩) Ws.length cv] 29)) _ := hHeld.2.2.2.2.2
                    refine (specFreeTo W H C x true hC HFX _).mono ?_
                    rintro e w9 ⟨rfl, hb⟩
                    have hS5 := held_two (k := k) (l := k - 1) (x := .int .i64 x) (y := .int .i64 x) hB5 hb hHeld.2.2.2.1 hHeld.2.2.2.2.1 hq
                    clear hb hHeld
                    refine hK.out _ _ hS5 (fun hHeld => ?_)
                    clear hK K hS5
                    refine wpAnyH_take (i := 6) (oi := _) (v := .bool false) rfl (by kernel_rfl) (by kernel_rfl) (by kernel_rfl) (fun _ _ _ h => h) (Or.inl ⟨by rfl, ?_⟩) (by assumption) ?_
                    focus (intro w' hSw; (try dsimp only at hSw); go_split_ands; simp only [List.getElem_toArray, List.getElem_cons_succ, List.getElem_cons_zero]; go_simp; done)
                    simp only [List.getElem_toArray, List.getElem_cons_succ, List.getElem_cons_zero, Act.put, List.setIfInBounds_toArray, List.set_cons_zero, List.set_cons_succ]
                    refine wpAnyH_take (i := 7) (oi := _) (v := .bool false) rfl (by kernel_rfl) (by kernel_rfl) (by kernel_rfl) (fun _ _ _ h => h) (Or.inl ⟨by rfl, ?_⟩) (by assumption) ?_
                    focus (intro w' hSw; (try dsimp only at hSw); go_split_ands; simp only [List.getElem_toArray, List.getElem_cons_succ, List.getElem_cons_zero]; go_simp; done)
                    simp only [List.getElem_toArray, List.getElem_cons_succ, List.getElem_cons_zero, Act.put, List.setIfInBounds_toArray, List.set_cons_zero, List.set_cons_succ]
                    refine wpAnyH_take (i := 8) (oi := _) (v := .int .i64 (k : Int)) rfl (by kernel_rfl) (by kernel_rfl) (by kernel_rfl) (fun _ _ _ h => h) (Or.inl ⟨by rfl, ?_⟩) (by assumption) ?_
                    focus (intro w' hSw; (try dsimp only at hSw); go_split_ands; simp only [List.getElem_toArray, List.getElem_cons_succ, List.getElem_cons_zero]; go_simp; done)
                    simp only [List.getElem_toArray, List.getElem_cons_succ, List.getElem_cons_zero, Act.put, List.setIfInBounds_toArray, List.set_cons_zero, List.set_cons_succ]
                    refine wpAnyH_take (i := 9) (oi := _) (v := .bool true) rfl (by kernel_rfl) (by kernel_rfl) (by kernel_rfl) (fun _ _ _ h => h) (Or.inl ⟨by rfl, ?_⟩) (by assumption) ?_
                    focus (intro w' hSw; (try dsimp only at hSw); go_split_ands; simp only [List.getElem_toArray, List.getElem_cons_succ, List.getElem_cons_zero]; go_simp; done)
                    simp only [List.getElem_toArray, List.getElem_cons_succ, List.getElem_cons_zero, Act.put, List.setIfInBounds_toArray, List.set_cons_zero, List.set_cons_succ]
                    refine wpAnyH_take (i := 10) (oi := _) (v := .bool true) rfl (by kernel_rfl) (by kernel_rfl) (by kernel_rfl) (fun _ _ _ h => h) (Or.inl ⟨by rfl, ?_⟩) (by assumption) ?_
                    focus (intro w' hSw; (try dsimp only at hSw); go_split_ands; simp only [List.getElem_toArray, List.getElem_cons_succ, List.getElem_cons_zero]; go_simp; done)
                    simp only [List.getElem_toArray, List.getElem_cons_succ, List.getElem_cons_zero, Act.put, List.setIfInBounds_toArray, List.set_cons_zero, List.set_cons_succ]
                    refine wpAnyH_take (i := 11) (oi := _) (v := .slice (some ⟨q, 0, none⟩) L.length bu) rfl (by kernel_rfl) (by kernel_rfl) (by kernel_rfl) (fun _ _ _ h => h) (Or.inl ⟨by rfl, ?_⟩) (by assumption) ?_
                    focus (intro w' hSw; (try dsimp only at hSw); go_split_ands; simp only [List.getElem_toArray, List.getElem_cons_succ, List.getElem_cons_zero]; go_simp; done)
                    simp only [List.getElem_toArray, List.getElem_cons_succ, List.getElem_cons_zero, Act.put, List.setIfInBounds_toArray, List.set_cons_zero, List.set_cons_succ]
                    refine wpAnyH_take (i := 12) (oi := _) (v := .int .i64 (k : Int)) rfl (by kernel_rfl) (by kernel_rfl) (by kernel_rfl) (fun _ _ _ h => h) (Or.inl ⟨by rfl, ?_⟩) (by assumption) ?_
                    focus (intro w' hSw; (try dsimp only at hSw); go_split_ands; simp only [List.getElem_toArray, List.getElem_cons_succ, List.getElem_cons_zero]; go_simp; done)
                    simp only [List.getElem_toArray, List.getElem_cons_succ, List.getElem_cons_zero, Act.put, List.setIfInBounds_toArray, List.set_cons_zero, List.set_cons_succ]
                    refine wpAnyH_take (i := 13) (oi := _) (v := .pointer (some ⟨q, k, none⟩)) rfl (by kernel_rfl) (by kernel_rfl) (by kernel_rfl) (fun _ _ _ h => h) (Or.inl ⟨by rfl, ?_⟩) (by assumption) ?_
                    focus (intro w' hSw; (try dsimp only at hSw); go_split_ands; simp only [List.getElem_toArray, List.getElem_cons_succ, List.getElem_cons_zero]; go_simp; done)
                    simp only [List.getElem_toArray, List.getElem_cons_succ, List.getElem_cons_zero, Act.put, List.setIfInBounds_toArray, List.set_cons_zero, List.set_cons_succ]
                    refine wpAnyH_take (i := 14) (oi := _) (v := .int .i64 x) rfl (by kernel_rfl) (by kernel_rfl) (by kernel_rfl) (fun _ _ _ h => h) (Or.inl ⟨by rfl, ?_⟩) (by assumption) ?_
                    focus (intro w' hSw; (try dsimp only at hSw); go_split_ands; simp only [List.getElem_toArray, List.getElem_cons_succ, List.getElem_cons_zero]; go_simp; done)
                    simp only [List.getElem_toArray, List.getElem_cons_succ, List.getElem_cons_zero, Act.put, List.setIfInBounds_toArray, List.set_cons_zero, List.set_cons_succ]
                    refine wpAnyH_take (i := 15) (oi := _) (v := .slice (some ⟨q, 0, none⟩) L.length bu) rfl (by kernel_rfl) (by kernel_rfl) (by kernel_rfl) (fun _ _ _ h => h) (Or.inl ⟨by rfl, ?_⟩) (by assumption) ?_
                    focus (intro w' hSw; (try dsimp only at hSw); go_split_ands; simp only [List.getElem_toArray, List.getElem_cons_succ, List.getElem_cons_zero]; go_simp; done)
                    simp only [List.getElem_toArray, List.getElem_cons_succ, List.getElem_cons_zero, Act.put, List.setIfInBounds_toArray, List.set_cons_zero, List.set_cons_succ]
                    refine wpAnyH_take (i := 16) (oi := _) (v := .int .i64 (k : Int)) rfl (by kernel_rfl) (by kernel_rfl) (by kernel_rfl) (fun _ _ _ h => h) (Or.inl ⟨by rfl, ?_⟩) (by assumption) ?_
                    focus (intro w' hSw; (try dsimp only at hSw); go_split_ands; simp only [List.getElem_toArray, List.getElem_cons_succ, List.getElem_cons_zero]; go_simp; done)
                    simp only [List.getElem_toArray, List.getElem_cons_succ, List.getElem_cons_zero, Act.put, List.setIfInBounds_toArray, List.set_cons_zero, List.set_cons_succ]
                    refine wpAnyH_take (i := 17) (oi := _) (v := .int .i64 ((k - 1 : Nat) : Int)) rfl (by kernel_rfl) (by kernel_rfl) (by kernel_rfl) (fun _ _ _ h => h) (Or.inl ⟨by rfl, ?_⟩) (by assumption) ?_
                    focus (intro w' hSw; (try dsimp only at hSw); go_split_ands; simp only [List.getElem_toArray, List.getElem_cons_succ, List.getElem_cons_zero]; go_simp; done)
                    simp only [List.getElem_toArray, List.getElem_cons_succ, List.getElem_cons_zero, Act.put, List.setIfInBounds_toArray, List.set_cons_zero, List.set_cons_succ]
                    refine wpAnyH_take (i := 18) (oi := _) (v := .pointer (some ⟨q, k - 1, none⟩)) rfl (by kernel_rfl) (by kernel_rfl) (by kernel_rfl) (fun _ _ _ h => h) (Or.inl ⟨by rfl, ?_⟩) (by assumption) ?_
                    focus (intro w' hSw; (try dsimp only at hSw); go_split_ands; simp only [List.getElem_toArray, List.getElem_cons_succ, List.getElem_cons_zero]; go_simp; done)
                    simp only [List.getElem_toArray, List.getElem_cons_succ, List.getElem_cons_zero, Act.put, List.setIfInBounds_toArray, List.set_cons_zero, List.set_cons_succ]
                    refine wpAnyH_take (i := 19) (oi := _) (v := .int .i64 x) rfl (by kernel_rfl) (by kernel_rfl) (by kernel_rfl) (fun _ _ _ h => h) (Or.inl ⟨by rfl, ?_⟩) (by assumption) ?_
                    focus (intro w' hSw; (try dsimp only at hSw); go_split_ands; simp only [List.getElem_toArray, List.getElem_cons_succ, List.getElem_cons_zero]; go_simp; done)
                    simp only [List.getElem_toArray, List.getElem_cons_succ, List.getElem_cons_zero, Act.put, List.setIfInBounds_toArray, List.set_cons_zero, List.set_cons_succ]
                    refine wpAnyH_take (i := 20) (oi := _) (v := .bool false) rfl (by kernel_rfl) (by kernel_rfl) (by kernel_rfl) (fun _ _ _ h => h) (Or.inl ⟨by rfl, ?_⟩) (by assumption) ?_
                    focus (intro w' hSw; (try dsimp only at hSw); go_split_ands; simp only [List.getElem_toArray, List.getElem_cons_succ, List.getElem_cons_zero]; go_simp; done)
                    simp only [List.getElem_toArray, List.getElem_cons_succ, List.getElem_cons_zero, Act.put, List.setIfInBounds_toArray, List.set_cons_zero, List.set_cons_succ]
                    refine wpAnyH_take (i := 21) (oi := _) (v := .bool false) rfl (by kernel_rfl) (by kernel_rfl) (by kernel_rfl) (fun _ _ _ h => h) (Or.inl ⟨by rfl, ?_⟩) (by assumption) ?_
                    focus (intro w' hSw; (try dsimp only at hSw); go_split_ands; simp only [List.getElem_toArray, List.getElem_cons_succ, List.getElem_cons_zero]; go_simp; done)
                    simp only [List.getElem_toArray, List.getElem_cons_succ, List.getElem_cons_zero, Act.put, List.setIfInBounds_toArray, List.set_cons_zero, List.set_cons_succ]
                    refine wpAnyH_take (i := 22) (oi := _) (v := .bool false) rfl (by kernel_rfl) (by kernel_rfl) (by kernel_rfl) (fun _ _ _ h => h) (Or.inl ⟨by rfl, ?_⟩) (by assumption) ?_
                    focus (intro w' hSw; (try dsimp only at hSw); go_split_ands; simp only [List.getElem_toArray, List.getElem_cons_succ, List.getElem_cons_zero]; go_simp; done)
                    simp only [List.getElem_toArray, List.getElem_cons_succ, List.getElem_cons_zero, Act.put, List.setIfInBounds_toArray, List.set_cons_zero, List.set_cons_succ]
                    refine wpAnyH_take (i := 23) (oi := _) (v := undef) rfl (by kernel_rfl) (by kernel_rfl) (by kernel_rfl) (fun _ _ _ h => h) (Or.inr ⟨by rfl, rfl⟩) (by assumption) ?_
                    simp only [List.getElem_toArray, List.getElem_cons_succ, List.getElem_cons_zero, Act.put, List.setIfInBounds_toArray, List.set_cons_zero, List.set_cons_succ]
                    refine wpAnyH_take (i := 24) (oi := _) (v := undef) rfl (by kernel_rfl) (by kernel_rfl) (by kernel_rfl) (fun _ _ _ h => h) (Or.inr ⟨by rfl, rfl⟩) (by assumption) ?_
                    simp only [List.getElem_toArray, List.getElem_cons_succ, List.getElem_cons_zero, Act.put, List.setIfInBounds_toArray, List.set_cons_zero, List.set_cons_succ]
                    refine wpAnyH_take (i := 25) (oi := _) (v := undef) rfl (by kernel_rfl) (by kernel_rfl) (by kernel_rfl) (fun _ _ _ h => h) (Or.inr ⟨by rfl, rfl⟩) (by assumption) ?_
                    simp only [List.getElem_toArray, List.getElem_cons_succ, List.getElem_cons_zero, Act.put, List.setIfInBounds_toArray, List.set_cons_zero, List.set_cons_succ]
                    refine wpAnyH_take (i := 26) (oi := _) (v := undef) rfl (by kernel_rfl) (by kernel_rfl) (by kernel_rfl) (fun _ _ _ h => h) (Or.inr ⟨by rfl, rfl⟩) (by assumption) ?_
                    simp only [List.getElem_toArray, List.getElem_cons_succ, List.getElem_cons_zero, Act.put, List.setIfInBounds_toArray, List.set_cons_zero, List.set_cons_succ]
                    refine wpAnyH_take (i := 27) (oi := _) (v := undef) rfl (by kernel_rfl) (by kernel_rfl) (by kernel_rfl) (fun _ _ _ h => h) (Or.inr ⟨by rfl, rfl⟩) (by assumption) ?_
                    simp only [List.getElem_toArray, List.getElem_cons_succ, List.getElem_cons_zero, Act.put, List.setIfInBounds_toArray, List.set_cons_zero, List.set_cons_succ]
                    refine wpAnyH_take (i := 28) (oi := _) (v := undef) rfl (by kernel_rfl) (by kernel_rfl) (by kernel_rfl) (fun _ _ _ h => h) (Or.inr ⟨by rfl, rfl⟩) (by assumption) ?_
                    simp only [List.getElem_toArray, List.getElem_cons_succ, List.getElem_cons_zero, Act.put, List.setIfInBounds_toArray, List.set_cons_zero, List.set_cons_succ]
                    refine wpAnyH_take (i := 29) (oi := _) (v := undef) rfl (by kernel_rfl) (by kernel_rfl) (by kernel_rfl) (fun _ _ _ h => h) (Or.inr ⟨by rfl, rfl⟩) (by assumption) ?_
                    simp only [List.getElem_toArray, List.getElem_cons_succ, List.getElem_cons_zero, Act.put, List.setIfInBounds_toArray, List.set_cons_zero, List.set_cons_succ]
                    refine wpAnyH_take (i := 30) (oi := _) (v := undef) rfl (by kernel_rfl) (by kernel_rfl) (by kernel_rfl) (fun _ _ _ h => h) (Or.inr ⟨by rfl, rfl⟩) (by assumption) ?_
                    simp only [List.getElem_toArray, List.getElem_cons_succ, List.getElem_cons_zero, Act.put, List.setIfInBounds_toArray, List.set_cons_zero, List.set_cons_succ]
                    refine wpAnyH_take (i := 31) (oi := _) (v := undef) rfl (by kernel_rfl) (by kernel_rfl) (by kernel_rfl) (fun _ _ _ h => h) (Or.inr ⟨by rfl, rfl⟩) (by assumption) ?_
                    simp only [List.getElem_toArray, List.getElem_cons_succ, List.getElem_cons_zero, Act.put, List.setIfInBounds_toArray, List.set_cons_zero, List.set_cons_succ]
                    refine wpAnyH_take (i := 32) (oi := _) (v := undef) rfl (by kernel_rfl) (by kernel_rfl) (by kernel_rfl) (fun _ _ _ h => h) (Or.inr ⟨by rfl, rfl⟩) (by assumption) ?_
                    simp only [List.getElem_toArray, List.getElem_cons_succ, List.getElem_cons_zero, Act.put, List.setIfInBounds_toArray, List.set_cons_zero, List.set_cons_succ]
                    refine wpAnyH_take (i := 33) (oi := _) (v := undef) rfl (by kernel_rfl) (by kernel_rfl) (by kernel_rfl) (fun _ _ _ h => h) (Or.inr ⟨by rfl, rfl⟩) (by assumption) ?_
                    simp only [List.getElem_toArray, List.getElem_cons_succ, List.getElem_cons_zero, Act.put, List.setIfInBounds_toArray, List.set_cons_zero, List.set_cons_succ]
                    refine wpAnyH_take (i := 34) (oi := _) (v := undef) rfl (by kernel_rfl) (by kernel_rfl) (by kernel_rfl) (fun _ _ _ h => h) (Or.inr ⟨by rfl, rfl⟩) (by assumption) ?_
                    simp only [List.getElem_toArray, List.getElem_cons_succ, List.getElem_cons_zero, Act.put, List.setIfInBounds_toArray, List.set_cons_zero, List.set_cons_succ]
                    refine wpAnyH_take (i := 35) (oi := _) (v := .bool false) rfl (by kernel_rfl) (by kernel_rfl) (by kernel_rfl) (fun _ _ _ h => h) (Or.inl ⟨by rfl, ?_⟩) (by assumption) ?_
                    focus (intro w' hSw; (try dsimp only at hSw); go_split_ands; simp only [List.getElem_toArray, List.getElem_cons_succ, List.getElem_cons_zero]; go_simp; done)
                    simp only [List.getElem_toArray, List.getElem_cons_succ, List.getElem_cons_zero, Act.put, List.setIfInBounds_toArray, List.set_cons_zero, List.set_cons_succ]
                    refine wpAnyH_take (i := 36) (oi := _) (v := .bool false) rfl (by kernel_rfl) (by kernel_rfl) (by kernel_rfl) (fun _ _ _ h => h) (Or.inl ⟨by rfl, ?_⟩) (by assumption) ?_
                    focus (intro w' hSw; (try dsimp only at hSw); go_split_ands; simp only [List.getElem_toArray, List.getElem_cons_succ, List.getElem_cons_zero]; go_simp; done)
                    simp only [List.getElem_toArray, List.getElem_cons_succ, List.getElem_cons_zero, Act.put, List.setIfInBounds_toArray, List.set_cons_zero, List.set_cons_succ]
                    refine wpAnyH_done (by kernel_rfl) ?_ _
                    have HBE := Lib.hid hHeld.2.2.2.2.2
                    clear hHeld hS0
                    go_wp2_with fail
                    go_roundw
                    case rel => exact ⟨k + 1, by omega, by go_num, Lib.hid fun m hm => (by
                      rcases Nat.lt_succ_iff_lt_or_eq.1 hm with h | h
                      · exact HM.out m h
                      · rw [h]; exact HSB.out), Lib.hid fun m z hm hz => (by
                      rcases Nat.lt_succ_iff_lt_or_eq.1 hm with h | h
                      · exact HFM.out m z h hz
                      · rw [h, HXK.out] at hz
                        cases hz
                        exact HFX.out), HBE.out⟩
                    case measure => simp [intOf]; omega
                  · have hb : (x != y) = true := by simpa using hxy
                    obtain ⟨r, HR⟩ : ∃ r, Hid ((aroundL W H C y).contains x = r) := ⟨_, rfl⟩
                    have HSB : Hid (stepB W H C L k = r) := Lib.hid (by rw [HSTB.out, HR.out, decide_eq_false hxy, Bool.false_or])
                    clear hxy
                    cases r with
                    | true =>
                      go_upto_region 12 with fail
                      refine wp_region_held_drew (S := fun w' => w'.cell? ⟨w.heap.size, 0, none⟩ = some (.int .i64 W) ∧ w'.cell? ⟨w.heap.size, 1, none⟩ = some (.int .i64 H) ∧ w'.cell? ⟨w.heap.size, 2, none⟩ = some (.string C) ∧ w'.cell? ⟨q, k, none⟩ = some (.int .i64 x) ∧ w'.cell? ⟨q, k - 1, none⟩ = some (.int .i64 y) ∧ Below ((w.alloc (.cells #[.int .i64 W, .int .i64 H, .string C] 25)).alloc (.cells #[.int .i64 (t : Int), .int .i64 M, .slice (some ⟨g, 0, none⟩) Ws.length cv] 29)).heap.size ((w.alloc (.cells #[.int .i64 W, .int .i64 H, .string C] 25)).alloc (.cells #[.int .i64 (t : Int), .int .i64 M, .slice (some ⟨g, 0, none⟩) Ws.length cv] 29)) w') (by kernel_rfl) hS0 (fun hHeld => ?_)
                      try simp only [List.append_eq, List.cons_append, List.nil_append]
                      refine wpAnyH_take (i := 0) (oi := _) (v := .agg #[.int .i64 W, .int .i64 H, .string C]) rfl (by kernel_rfl) (by kernel_rfl) (by kernel_rfl) (fun _ _ _ h => h) (Or.inl ⟨by rfl, ?_⟩) (by assumption) ?_
                      focus (intro w' hSw; (try dsimp only at hSw); go_split_ands; simp only [List.getElem_toArray, List.getElem_cons_zero]; go_simp; done)
                      simp only [List.getElem_toArray, List.getElem_cons_zero, Act.put, List.setIfInBounds_toArray, List.set_cons_zero, List.set_cons_succ]
                      refine wpAnyH_take (i := 1) (oi := _) (v := .slice (some ⟨q, 0, none⟩) L.length bu) rfl (by kernel_rfl) (by kernel_rfl) (by kernel_rfl) (fun _ _ _ h => h) (Or.inl ⟨by rfl, ?_⟩) (by assumption) ?_
                      focus (intro w' hSw; (try dsimp only at hSw); go_split_ands; simp only [List.getElem_toArray, List.getElem_cons_succ, List.getElem_cons_zero]; go_simp; done)
                      simp only [List.getElem_toArray, List.getElem_cons_succ, List.getElem_cons_zero, Act.put, List.setIfInBounds_toArray, List.set_cons_zero, List.set_cons_succ]
                      refine wpAnyH_take (i := 2) (oi := _) (v := .int .i64 (k : Int)) rfl (by kernel_rfl) (by kernel_rfl) (by kernel_rfl) (fun _ _ _ h => h) (Or.inl ⟨by rfl, ?_⟩) (by assumption) ?_
                      focus (intro w' hSw; (try dsimp only at hSw); go_split_ands; simp only [List.getElem_toArray, List.getElem_cons_succ, List.getElem_cons_zero]; go_simp; done)
                      simp only [List.getElem_toArray, List.getElem_cons_succ, List.getElem_cons_zero, Act.put, List.setIfInBounds_toArray, List.set_cons_zero, List.set_cons_succ]
                      refine wpAnyH_take (i := 3) (oi := _) (v := .pointer (some ⟨q, k, none⟩)) rfl (by kernel_rfl) (by kernel_rfl) (by kernel_rfl) (fun _ _ _ h => h) (Or.inl ⟨by rfl, ?_⟩) (by assumption) ?_
                      focus (intro w' hSw; (try dsimp only at hSw); go_split_ands; simp only [List.getElem_toArray, List.getElem_cons_succ, List.getElem_cons_zero]; go_simp; done)
                      simp only [List.getElem_toArray, List.getElem_cons_succ, List.getElem_cons_zero, Act.put, List.setIfInBounds_toArray, List.set_cons_zero, List.set_cons_succ]
                      refine wpAnyH_take (i := 4) (oi := _) (v := .int .i64 x) rfl (by kernel_rfl) (by kernel_rfl) (by kernel_rfl) (fun _ _ _ h => h) (Or.inl ⟨by rfl, ?_⟩) (by assumption) ?_
                      focus (intro w' hSw; (try dsimp only at hSw); go_split_ands; simp only [List.getElem_toArray, List.getElem_cons_succ, List.getElem_cons_zero]; go_simp; done)
                      simp only [List.getElem_toArray, List.getElem_cons_succ, List.getElem_cons_zero, Act.put, List.setIfInBounds_toArray, List.set_cons_zero, List.set_cons_succ]
                      refine wpAnyH_ready (rs := [5]) (by kernel_rfl) (by simp) ?_
                      refine AllReadyH.cons rfl (fun K hK => ?_) AllReadyH.nil
                      simp only [List.getElem_toArray, List.getElem_cons_succ, List.getElem_cons_zero]
                      go_simp
                      go_at_call 32
                      have hB5 : Below ((w.alloc (.cells #[.int .i64 W, .int .i64 H, .string C] 25)).alloc (.cells #[.int .i64 (t : Int), .int .i64 M, .slice (some ⟨g, 0, none⟩) Ws.length cv] 29)).heap.size ((w.alloc (.cells #[.int .i64 W, .int .i64 H, .string C] 25)).alloc (.cells #[.int .i64 (t : Int), .int .i64 M, .slice (some ⟨g, 0, none⟩) Ws.length cv] 29)) _ := hHeld.2.2.2.2.2
                      refine (specFreeTo W H C x true hC HFX _).mono ?_
                      rintro e w9 ⟨rfl, hb⟩
                      have hS5 := held_two (k := k) (l := k - 1) (x := .int .i64 x) (y := .int .i64 y) hB5 hb hHeld.2.2.2.1 hHeld.2.2.2.2.1 hq
                      clear hb hHeld
                      refine hK.out _ _ hS5 (fun hHeld => ?_)
                      clear hK K hS5
                      refine wpAnyH_take (i := 6) (oi := _) (v := .bool false) rfl (by kernel_rfl) (by kernel_rfl) (by kernel_rfl) (fun _ _ _ h => h) (Or.inl ⟨by rfl, ?_⟩) (by assumption) ?_
                      focus (intro w' hSw; (try dsimp only at hSw); go_split_ands; simp only [List.getElem_toArray, List.getElem_cons_succ, List.getElem_cons_zero]; go_simp; done)
                      simp only [List.getElem_toArray, List.getElem_cons_succ, List.getElem_cons_zero, Act.put, List.setIfInBounds_toArray, List.set_cons_zero, List.set_cons_succ]
                      refine wpAnyH_take (i := 7) (oi := _) (v := .bool false) rfl (by kernel_rfl) (by kernel_rfl) (by kernel_rfl) (fun _ _ _ h => h) (Or.inl ⟨by rfl, ?_⟩) (by assumption) ?_
                      focus (intro w' hSw; (try dsimp only at hSw); go_split_ands; simp only [List.getElem_toArray, List.getElem_cons_succ, List.getElem_cons_zero]; go_simp; done)
                      simp only [List.getElem_toArray, List.getElem_cons_succ, List.getElem_cons_zero, Act.put, List.setIfInBounds_toArray, List.set_cons_zero, List.set_cons_succ]
                      refine wpAnyH_take (i := 8) (oi := _) (v := .int .i64 (k : Int)) rfl (by kernel_rfl) (by kernel_rfl) (by kernel_rfl) (fun _ _ _ h => h) (Or.inl ⟨by rfl, ?_⟩) (by assumption) ?_
                      focus (intro w' hSw; (try dsimp only at hSw); go_split_ands; simp only [List.getElem_toArray, List.getElem_cons_succ, List.getElem_cons_zero]; go_simp; done)
                      simp only [List.getElem_toArray, List.getElem_cons_succ, List.getElem_cons_zero, Act.put, List.setIfInBounds_toArray, List.set_cons_zero, List.set_cons_succ]
                      refine wpAnyH_take (i := 9) (oi := _) (v := .bool true) rfl (by kernel_rfl) (by kernel_rfl) (by kernel_rfl) (fun _ _ _ h => h) (Or.inl ⟨by rfl, ?_⟩) (by assumption) ?_
                      focus (intro w' hSw; (try dsimp only at hSw); go_split_ands; simp only [List.getElem_toArray, List.getElem_cons_succ, List.getElem_cons_zero]; go_simp; done)
                      simp only [List.getElem_toArray, List.getElem_cons_succ, List.getElem_cons_zero, Act.put, List.setIfInBounds_toArray, List.set_cons_zero, List.set_cons_succ]
                      refine wpAnyH_take (i := 10) (oi := _) (v := .bool true) rfl (by kernel_rfl) (by kernel_rfl) (by kernel_rfl) (fun _ _ _ h => h) (Or.inl ⟨by rfl, ?_⟩) (by assumption) ?_
                      focus (intro w' hSw; (try dsimp only at hSw); go_split_ands; simp only [List.getElem_toArray, List.getElem_cons_succ, List.getElem_cons_zero]; go_simp; done)
                      simp only [List.getElem_toArray, List.getElem_cons_succ, List.getElem_cons_zero, Act.put, List.setIfInBounds_toArray, List.set_cons_zero, List.set_cons_succ]
                      refine wpAnyH_take (i := 11) (oi := _) (v := .slice (some ⟨q, 0, none⟩) L.length bu) rfl (by kernel_rfl) (by kernel_rfl) (by kernel_rfl) (fun _ _ _ h => h) (Or.inl ⟨by rfl, ?_⟩) (by assumption) ?_
                      focus (intro w' hSw; (try dsimp only at hSw); go_split_ands; simp only [List.getElem_toArray, List.getElem_cons_succ, List.getElem_cons_zero]; go_simp; done)
                      simp only [List.getElem_toArray, List.getElem_cons_succ, List.getElem_cons_zero, Act.put, List.setIfInBounds_toArray, List.set_cons_zero, List.set_cons_succ]
                      refine wpAnyH_take (i := 12) (oi := _) (v := .int .i64 (k : Int)) rfl (by kernel_rfl) (by kernel_rfl) (by kernel_rfl) (fun _ _ _ h => h) (Or.inl ⟨by rfl, ?_⟩) (by assumption) ?_
                      focus (intro w' hSw; (try dsimp only at hSw); go_split_ands; simp only [List.getElem_toArray, List.getElem_cons_succ, List.getElem_cons_zero]; go_simp; done)
                      simp only [List.getElem_toArray, List.getElem_cons_succ, List.getElem_cons_zero, Act.put, List.setIfInBounds_toArray, List.set_cons_zero, List.set_cons_succ]
                      refine wpAnyH_take (i := 13) (oi := _) (v := .pointer (some ⟨q, k, none⟩)) rfl (by kernel_rfl) (by kernel_rfl) (by kernel_rfl) (fun _ _ _ h => h) (Or.inl ⟨by rfl, ?_⟩) (by assumption) ?_
                      focus (intro w' hSw; (try dsimp only at hSw); go_split_ands; simp only [List.getElem_toArray, List.getElem_cons_succ, List.getElem_cons_zero]; go_simp; done)
                      simp only [List.getElem_toArray, List.getElem_cons_succ, List.getElem_cons_zero, Act.put, List.setIfInBounds_toArray, List.set_cons_zero, List.set_cons_succ]
                      refine wpAnyH_take (i := 14) (oi := _) (v := .int .i64 x) rfl (by kernel_rfl) (by kernel_rfl) (by kernel_rfl) (fun _ _ _ h => h) (Or.inl ⟨by rfl, ?_⟩) (by assumption) ?_
                      focus (intro w' hSw; (try dsimp only at hSw); go_split_ands; simp only [List.getElem_toArray, List.getElem_cons_succ, List.getElem_cons_zero]; go_simp; done)
                      simp only [List.getElem_toArray, List.getElem_cons_succ, List.getElem_cons_zero, Act.put, List.setIfInBounds_toArray, List.set_cons_zero, List.set_cons_succ]
                      refine wpAnyH_take (i := 15) (oi := _) (v := .slice (some ⟨q, 0, none⟩) L.length bu) rfl (by kernel_rfl) (by kernel_rfl) (by kernel_rfl) (fun _ _ _ h => h) (Or.inl ⟨by rfl, ?_⟩) (by assumption) ?_
                      focus (intro w' hSw; (try dsimp only at hSw); go_split_ands; simp only [List.getElem_toArray, List.getElem_cons_succ, List.getElem_cons_zero]; go_simp; done)
                      simp only [List.getElem_toArray, List.getElem_cons_succ, List.getElem_cons_zero, Act.put, List.setIfInBounds_toArray, List.set_cons_zero, List.set_cons_succ]
                      refine wpAnyH_take (i := 16) (oi := _) (v := .int .i64 (k : Int)) rfl (by kernel_rfl) (by kernel_rfl) (by kernel_rfl) (fun _ _ _ h => h) (Or.inl ⟨by rfl, ?_⟩) (by assumption) ?_
                      focus (intro w' hSw; (try dsimp only at hSw); go_split_ands; simp only [List.getElem_toArray, List.getElem_cons_succ, List.getElem_cons_zero]; go_simp; done)
                      simp only [List.getElem_toArray, List.getElem_cons_succ, List.getElem_cons_zero, Act.put, List.setIfInBounds_toArray, List.set_cons_zero, List.set_cons_succ]
                      refine wpAnyH_take (i := 17) (oi := _) (v := .int .i64 ((k - 1 : Nat) : Int)) rfl (by kernel_rfl) (by kernel_rfl) (by kernel_rfl) (fun _ _ _ h => h) (Or.inl ⟨by rfl, ?_⟩) (by assumption) ?_
                      focus (intro w' hSw; (try dsimp only at hSw); go_split_ands; simp only [List.getElem_toArray, List.getElem_cons_succ, List.getElem_cons_zero]; go_simp; done)
                      simp only [List.getElem_toArray, List.getElem_cons_succ, List.getElem_cons_zero, Act.put, List.setIfInBounds_toArray, List.set_cons_zero, List.set_cons_succ]
                      refine wpAnyH_take (i := 18) (oi := _) (v := .pointer (some ⟨q, k - 1, none⟩)) rfl (by kernel_rfl) (by kernel_rfl) (by kernel_rfl) (fun _ _ _ h => h) (Or.inl ⟨by rfl, ?_⟩) (by assumption) ?_
                      focus (intro w' hSw; (try dsimp only at hSw); go_split_ands; simp only [List.getElem_toArray, List.getElem_cons_succ, List.getElem_cons_zero]; go_simp; done)
                      simp only [List.getElem_toArray, List.getElem_cons_succ, List.getElem_cons_zero, Act.put, List.setIfInBounds_toArray, List.set_cons_zero, List.set_cons_succ]
                      refine wpAnyH_take (i := 19) (oi := _) (v := .int .i64 y) rfl (by kernel_rfl) (by kernel_rfl) (by kernel_rfl) (fun _ _ _ h => h) (Or.inl ⟨by rfl, ?_⟩) (by assumption) ?_
                      focus (intro w' hSw; (try dsimp only at hSw); go_split_ands; simp only [List.getElem_toArray, List.getElem_cons_succ, List.getElem_cons_zero]; go_simp; done)
                      simp only [List.getElem_toArray, List.getElem_cons_succ, List.getElem_cons_zero, Act.put, List.setIfInBounds_toArray, List.set_cons_zero, List.set_cons_succ]
                      refine wpAnyH_take (i := 20) (oi := _) (v := .bool true) rfl (by kernel_rfl) (by kernel_rfl) (by kernel_rfl) (fun _ _ _ h => h) (Or.inl ⟨by rfl, ?_⟩) (by assumption) ?_
                      focus (intro w' hSw; (try dsimp only at hSw); go_split_ands; simp only [List.getElem_toArray, List.getElem_cons_succ, List.getElem_cons_zero]; go_simp; done)
                      simp only [List.getElem_toArray, List.getElem_cons_succ, List.getElem_cons_zero, Act.put, List.setIfInBounds_toArray, List.set_cons_zero, List.set_cons_succ]
                      refine wpAnyH_take (i := 21) (oi := _) (v := .bool true) rfl (by kernel_rfl) (by kernel_rfl) (by kernel_rfl) (fun _ _ _ h => h) (Or.inl ⟨by rfl, ?_⟩) (by assumption) ?_
                      focus (intro w' hSw; (try dsimp only at hSw); go_split_ands; simp only [List.getElem_toArray, List.getElem_cons_succ, List.getElem_cons_zero]; go_simp; done)
                      simp only [List.getElem_toArray, List.getElem_cons_succ, List.getElem_cons_zero, Act.put, List.setIfInBounds_toArray, List.set_cons_zero, List.set_cons_succ]
                      refine wpAnyH_take (i := 22) (oi := _) (v := .bool true) rfl (by kernel_rfl) (by kernel_rfl) (by kernel_rfl) (fun _ _ _ h => h) (Or.inl ⟨by rfl, ?_⟩) (by assumption) ?_
                      focus (intro w' hSw; (try dsimp only at hSw); go_split_ands; simp only [List.getElem_toArray, List.getElem_cons_succ, List.getElem_cons_zero]; go_simp; done)
                      simp only [List.getElem_toArray, List.getElem_cons_succ, List.getElem_cons_zero, Act.put, List.setIfInBounds_toArray, List.set_cons_zero, List.set_cons_succ]
                      refine wpAnyH_take (i := 23) (oi := _) (v := .agg #[.int .i64 W, .int .i64 H, .string C]) rfl (by kernel_rfl) (by kernel_rfl) (by kernel_rfl) (fun _ _ _ h => h) (Or.inl ⟨by rfl, ?_⟩) (by assumption) ?_
                      focus (intro w' hSw; (try dsimp only at hSw); go_split_ands; simp only [List.getElem_toArray, List.getElem_cons_succ, List.getElem_cons_zero]; go_simp; done)
                      simp only [List.getElem_toArray, List.getElem_cons_succ, List.getElem_cons_zero, Act.put, List.setIfInBounds_toArray, List.set_cons_zero, List.set_cons_succ]
                      refine wpAnyH_take (i := 24) (oi := _) (v := .slice (some ⟨q, 0, none⟩) L.length bu) rfl (by kernel_rfl) (by kernel_rfl) (by kernel_rfl) (fun _ _ _ h => h) (Or.inl ⟨by rfl, ?_⟩) (by assumption) ?_
                      focus (intro w' hSw; (try dsimp only at hSw); go_split_ands; simp only [List.getElem_toArray, List.getElem_cons_succ, List.getElem_cons_zero]; go_simp; done)
                      simp only [List.getElem_toArray, List.getElem_cons_succ, List.getElem_cons_zero, Act.put, List.setIfInBounds_toArray, List.set_cons_zero, List.set_cons_succ]
                      refine wpAnyH_take (i := 25) (oi := _) (v := .int .i64 (k : Int)) rfl (by kernel_rfl) (by kernel_rfl) (by kernel_rfl) (fun _ _ _ h => h) (Or.inl ⟨by rfl, ?_⟩) (by assumption) ?_
                      focus (intro w' hSw; (try dsimp only at hSw); go_split_ands; simp only [List.getElem_toArray, List.getElem_cons_succ, List.getElem_cons_zero]; go_simp; done)
                      simp only [List.getElem_toArray, List.getElem_cons_succ, List.getElem_cons_zero, Act.put, List.setIfInBounds_toArray, List.set_cons_zero, List.set_cons_succ]
                      refine wpAnyH_take (i := 26) (oi := _) (v := .int .i64 ((k - 1 : Nat) : Int)) rfl (by kernel_rfl) (by kernel_rfl) (by kernel_rfl) (fun _ _ _ h => h) (Or.inl ⟨by rfl, ?_⟩) (by assumption) ?_
                      focus (intro w' hSw; (try dsimp only at hSw); go_split_ands; simp only [List.getElem_toArray, List.getElem_cons_succ, List.getElem_cons_zero]; go_simp; done)
                      simp only [List.getElem_toArray, List.getElem_cons_succ, List.getElem_cons_zero, Act.put, List.setIfInBounds_toArray, List.set_cons_zero, List.set_cons_succ]
                      refine wpAnyH_take (i := 27) (oi := _) (v := .pointer (some ⟨q, k - 1, none⟩)) rfl (by kernel_rfl) (by kernel_rfl) (by kernel_rfl) (fun _ _ _ h => h) (Or.inl ⟨by rfl, ?_⟩) (by assumption) ?_
                      focus (intro w' hSw; (try dsimp only at hSw); go_split_ands; simp only [List.getElem_toArray, List.getElem_cons_succ, List.getElem_cons_zero]; go_simp; done)
                      simp only [List.getElem_toArray, List.getElem_cons_succ, List.getElem_cons_zero, Act.put, List.setIfInBounds_toArray, List.set_cons_zero, List.set_cons_succ]
                      refine wpAnyH_take (i := 28) (oi := _) (v := .int .i64 y) rfl (by kernel_rfl) (by kernel_rfl) (by kernel_rfl) (fun _ _ _ h => h) (Or.inl ⟨by rfl, ?_⟩) (by assumption) ?_
                      focus (intro w' hSw; (try dsimp only at hSw); go_split_ands; simp only [List.getElem_toArray, List.getElem_cons_succ, List.getElem_cons_zero]; go_simp; done)
                      simp only [List.getElem_toArray, List.getElem_cons_succ, List.getElem_cons_zero, Act.put, List.setIfInBounds_toArray, List.set_cons_zero, List.set_cons_succ]
                      refine wpAnyH_take (i := 29) (oi := _) (v := .slice (some ⟨q, 0, none⟩) L.length bu) rfl (by kernel_rfl) (by kernel_rfl) (by kernel_rfl) (fun _ _ _ h => h) (Or.inl ⟨by rfl, ?_⟩) (by assumption) ?_
                      focus (intro w' hSw; (try dsimp only at hSw); go_split_ands; simp only [List.getElem_toArray, List.getElem_cons_succ, List.getElem_cons_zero]; go_simp; done)
                      simp only [List.getElem_toArray, List.getElem_cons_succ, List.getElem_cons_zero, Act.put, List.setIfInBounds_toArray, List.set_cons_zero, List.set_cons_succ]
                      refine wpAnyH_take (i := 30) (oi := _) (v := .int .i64 (k : Int)) rfl (by kernel_rfl) (by kernel_rfl) (by kernel_rfl) (fun _ _ _ h => h) (Or.inl ⟨by rfl, ?_⟩) (by assumption) ?_
                      focus (intro w' hSw; (try dsimp only at hSw); go_split_ands; simp only [List.getElem_toArray, List.getElem_cons_succ, List.getElem_cons_zero]; go_simp; done)
                      simp only [List.getElem_toArray, List.getElem_cons_succ, List.getElem_cons_zero, Act.put, List.setIfInBounds_toArray, List.set_cons_zero, List.set_cons_succ]
                      refine wpAnyH_take (i := 31) (oi := _) (v := .pointer (some ⟨q, k, none⟩)) rfl (by kernel_rfl) (by kernel_rfl) (by kernel_rfl) (fun _ _ _ h => h) (Or.inl ⟨by rfl, ?_⟩) (by assumption) ?_
                      focus (intro w' hSw; (try dsimp only at hSw); go_split_ands; simp only [List.getElem_toArray, List.getElem_cons_succ, List.getElem_cons_zero]; go_simp; done)
                      simp only [List.getElem_toArray, List.getElem_cons_succ, List.getElem_cons_zero, Act.put, List.setIfInBounds_toArray, List.set_cons_zero, List.set_cons_succ]
                      refine wpAnyH_take (i := 32) (oi := _) (v := .int .i64 x) rfl (by kernel_rfl) (by kernel_rfl) (by kernel_rfl) (fun _ _ _ h => h) (Or.inl ⟨by rfl, ?_⟩) (by assumption) ?_
                      focus (intro w' hSw; (try dsimp only at hSw); go_split_ands; simp only [List.getElem_toArray, List.getElem_cons_succ, List.getElem_cons_zero]; go_simp; done)
                      simp only [List.getElem_toArray, List.getElem_cons_succ, List.getElem_cons_zero, Act.put, List.setIfInBounds_toArray, List.set_cons_zero, List.set_cons_succ]
                      refine wpAnyH_ready (rs := [33]) (by kernel_rfl) (by simp) ?_
                      refine AllReadyH.cons rfl (fun K hK => ?_) AllReadyH.nil
                      simp only [List.getElem_toArray, List.getElem_cons_succ, List.getElem_cons_zero]
                      go_simp
                      go_at_call 33
                      have hB33 : Below ((w.alloc (.cells #[.int .i64 W, .int .i64 H, .string C] 25)).alloc (.cells #[.int .i64 (t : Int), .int .i64 M, .slice (some ⟨g, 0, none⟩) Ws.length cv] 29)).heap.size ((w.alloc (.cells #[.int .i64 W, .int .i64 H, .string C] 25)).alloc (.cells #[.int .i64 (t : Int), .int .i64 M, .slice (some ⟨g, 0, none⟩) Ws.length cv] 29)) _ := hHeld.2.2.2.2.2
                      refine (specBeside W H C y x true hC HR _).mono ?_
                      rintro e w9 ⟨rfl, hb⟩
                      have hS33 := held_two (k := k) (l := k - 1) (x := .int .i64 x) (y := .int .i64 y) hB33 hb hHeld.2.2.2.1 hHeld.2.2.2.2.1 hq
                      clear hb hHeld
                      refine hK.out _ _ hS33 (fun hHeld => ?_)
                      clear hK K hS33
                      refine wpAnyH_take (i := 34) (oi := _) (v := .bool false) rfl (by kernel_rfl) (by kernel_rfl) (by kernel_rfl) (fun _ _ _ h => h) (Or.inl ⟨by rfl, ?_⟩) (by assumption) ?_
                      focus (intro w' hSw; (try dsimp only at hSw); go_split_ands; simp only [List.getElem_toArray, List.getElem_cons_succ, List.getElem_cons_zero]; go_simp; done)
                      simp only [List.getElem_toArray, List.getElem_cons_succ, List.getElem_cons_zero, Act.put, List.setIfInBounds_toArray, List.set_cons_zero, List.set_cons_succ]
                      refine wpAnyH_take (i := 35) (oi := _) (v := .bool false) rfl (by kernel_rfl) (by kernel_rfl) (by kernel_rfl) (fun _ _ _ h => h) (Or.inl ⟨by rfl, ?_⟩) (by assumption) ?_
                      focus (intro w' hSw; (try dsimp only at hSw); go_split_ands; simp only [List.getElem_toArray, List.getElem_cons_succ, List.getElem_cons_zero]; go_simp; done)
                      simp only [List.getElem_toArray, List.getElem_cons_succ, List.getElem_cons_zero, Act.put, List.setIfInBounds_toArray, List.set_cons_zero, List.set_cons_succ]
                      refine wpAnyH_take (i := 36) (oi := _) (v := .bool false) rfl (by kernel_rfl) (by kernel_rfl) (by kernel_rfl) (fun _ _ _ h => h) (Or.inl ⟨by rfl, ?_⟩) (by assumption) ?_
                      focus (intro w' hSw; (try dsimp only at hSw); go_split_ands; simp only [List.getElem_toArray, List.getElem_cons_succ, List.getElem_cons_zero]; go_simp; done)
                      simp only [List.getElem_toArray, List.getElem_cons_succ, List.getElem_cons_zero, Act.put, List.setIfInBounds_toArray, List.set_cons_zero, List.set_cons_succ]
                      refine wpAnyH_done (by kernel_rfl) ?_ _
                      have HBE := Lib.hid hHeld.2.2.2.2.2
                      clear hHeld hS0
                      go_wp2_with fail
                      go_roundw
                      case rel => exact ⟨k + 1, by omega, by go_num, Lib.hid fun m hm => (by
                        rcases Nat.lt_succ_iff_lt_or_eq.1 hm with h | h
                        · exact HM.out m h
                        · rw [h]; exact HSB.out), Lib.hid fun m z hm hz => (by
                        rcases Nat.lt_succ_iff_lt_or_eq.1 hm with h | h
                        · exact HFM.out m z h hz
                        · rw [h, HXK.out] at hz
                          cases hz
                          exact HFX.out), HBE.out⟩
                      case measure => simp [intOf]; omega
                    | false =>
                      obtain rfl : c = 3 := by rw [← HXX.out, stepsV_no HXL.out (wayB_no hlk HSB.out)]; rfl
                      go_upto_region 12 with fail
                      refine wp_region_held_drew (S := fun w' => w'.cell? ⟨w.heap.size, 0, none⟩ = some (.int .i64 W) ∧ w'.cell? ⟨w.heap.size, 1, none⟩ = some (.int .i64 H) ∧ w'.cell? ⟨w.heap.size, 2, none⟩ = some (.string C) ∧ w'.cell? ⟨q, k, none⟩ = some (.int .i64 x) ∧ w'.cell? ⟨q, k - 1, none⟩ = some (.int .i64 y) ∧ Below ((w.alloc (.cells #[.int .i64 W, .int .i64 H, .string C] 25)).alloc (.cells #[.int .i64 (t : Int), .int .i64 M, .slice (some ⟨g, 0, none⟩) Ws.length cv] 29)).heap.size ((w.alloc (.cells #[.int .i64 W, .int .i64 H, .string C] 25)).alloc (.cells #[.int .i64 (t : Int), .int .i64 M, .slice (some ⟨g, 0, none⟩) Ws.length cv] 29)) w') (by kernel_rfl) hS0 (fun hHeld => ?_)
                      try simp only [List.append_eq, List.cons_append, List.nil_append]
                      refine wpAnyH_take (i := 0) (oi := _) (v := .agg #[.int .i64 W, .int .i64 H, .string C]) rfl (by kernel_rfl) (by kernel_rfl) (by kernel_rfl) (fun _ _ _ h => h) (Or.inl ⟨by rfl, ?_⟩) (by assumption) ?_
                      focus (intro w' hSw; (try dsimp only at hSw); go_split_ands; simp only [List.getElem_toArray, List.getElem_cons_zero]; go_simp; done)
                      simp only [List.getElem_toArray, List.getElem_cons_zero, Act.put, List.setIfInBounds_toArray, List.set_cons_zero, List.set_cons_succ]
                      refine wpAnyH_take (i := 1) (oi := _) (v := .slice (some ⟨q, 0, none⟩) L.length bu) rfl (by kernel_rfl) (by kernel_rfl) (by kernel_rfl) (fun _ _ _ h => h) (Or.inl ⟨by rfl, ?_⟩) (by assumption) ?_
                      focus (intro w' hSw; (try dsimp only at hSw); go_split_ands; simp only [List.getElem_toArray, List.getElem_cons_succ, List.getElem_cons_zero]; go_simp; done)
                      simp only [List.getElem_toArray, List.getElem_cons_succ, List.getElem_cons_zero, Act.put, List.setIfInBounds_toArray, List.set_cons_zero, List.set_cons_succ]
                      refine wpAnyH_take (i := 2) (oi := _) (v := .int .i64 (k : Int)) rfl (by kernel_rfl) (by kernel_rfl) (by kernel_rfl) (fun _ _ _ h => h) (Or.inl ⟨by rfl, ?_⟩) (by assumption) ?_
                      focus (intro w' hSw; (try dsimp only at hSw); go_split_ands; simp only [List.getElem_toArray, List.getElem_cons_succ, List.getElem_cons_zero]; go_simp; done)
                      simp only [List.getElem_toArray, List.getElem_cons_succ, List.getElem_cons_zero, Act.put, List.setIfInBounds_toArray, List.set_cons_zero, List.set_cons_succ]
                      refine wpAnyH_take (i := 3) (oi := _) (v := .pointer (some ⟨q, k, none⟩)) rfl (by kernel_rfl) (by kernel_rfl) (by kernel_rfl) (fun _ _ _ h => h) (Or.inl ⟨by rfl, ?_⟩) (by assumption) ?_
                      focus (intro w' hSw; (try dsimp only at hSw); go_split_ands; simp only [List.getElem_toArray, List.getElem_cons_succ, List.getElem_cons_zero]; go_simp; done)
                      simp only [List.getElem_toArray, List.getElem_cons_succ, List.getElem_cons_zero, Act.put, List.setIfInBounds_toArray, List.set_cons_zero, List.set_cons_succ]
                      refine wpAnyH_take (i := 4) (oi := _) (v := .int .i64 x) rfl (by kernel_rfl) (by kernel_rfl) (by kernel_rfl) (fun _ _ _ h => h) (Or.inl ⟨by rfl, ?_⟩) (by assumption) ?_
                      focus (intro w' hSw; (try dsimp only at hSw); go_split_ands; simp only [List.getElem_toArray, List.getElem_cons_succ, List.getElem_cons_zero]; go_simp; done)
                      simp only [List.getElem_toArray, List.getElem_cons_succ, List.getElem_cons_zero, Act.put, List.setIfInBounds_toArray, List.set_cons_zero, List.set_cons_succ]
                      refine wpAnyH_ready (rs := [5]) (by kernel_rfl) (by simp) ?_
                      refine AllReadyH.cons rfl (fun K hK => ?_) AllReadyH.nil
                      simp only [List.getElem_toArray, List.getElem_cons_succ, List.getElem_cons_zero]
                      go_simp
                      go_at_call 32
                      have hB5 : Below ((w.alloc (.cells #[.int .i64 W, .int .i64 H, .string C] 25)).alloc (.cells #[.int .i64 (t : Int), .int .i64 M, .slice (some ⟨g, 0, none⟩) Ws.length cv] 29)).heap.size ((w.alloc (.cells #[.int .i64 W, .int .i64 H, .string C] 25)).alloc (.cells #[.int .i64 (t : Int), .int .i64 M, .slice (some ⟨g, 0, none⟩) Ws.length cv] 29)) _ := hHeld.2.2.2.2.2
                      refine (specFreeTo W H C x true hC HFX _).mono ?_
                      rintro e w9 ⟨rfl, hb⟩
                      have hS5 := held_two (k := k) (l := k - 1) (x := .int .i64 x) (y := .int .i64 y) hB5 hb hHeld.2.2.2.1 hHeld.2.2.2.2.1 hq
                      clear hb hHeld
                      refine hK.out _ _ hS5 (fun hHeld => ?_)
                      clear hK K hS5
                      refine wpAnyH_take (i := 6) (oi := _) (v := .bool false) rfl (by kernel_rfl) (by kernel_rfl) (by kernel_rfl) (fun _ _ _ h => h) (Or.inl ⟨by rfl, ?_⟩) (by assumption) ?_
                      focus (intro w' hSw; (try dsimp only at hSw); go_split_ands; simp only [List.getElem_toArray, List.getElem_cons_succ, List.getElem_cons_zero]; go_simp; done)
                      simp only [List.getElem_toArray, List.getElem_cons_succ, List.getElem_cons_zero, Act.put, List.setIfInBounds_toArray, List.set_cons_zero, List.set_cons_succ]
                      refine wpAnyH_take (i := 7) (oi := _) (v := .bool false) rfl (by kernel_rfl) (by kernel_rfl) (by kernel_rfl) (fun _ _ _ h => h) (Or.inl ⟨by rfl, ?_⟩) (by assumption) ?_
                      focus (intro w' hSw; (try dsimp only at hSw); go_split_ands; simp only [List.getElem_toArray, List.getElem_cons_succ, List.getElem_cons_zero]; go_simp; done)
                      simp only [List.getElem_toArray, List.getElem_cons_succ, List.getElem_cons_zero, Act.put, List.setIfInBounds_toArray, List.set_cons_zero, List.set_cons_succ]
                      refine wpAnyH_take (i := 8) (oi := _) (v := .int .i64 (k : Int)) rfl (by kernel_rfl) (by kernel_rfl) (by kernel_rfl) (fun _ _ _ h => h) (Or.inl ⟨by rfl, ?_⟩) (by assumption) ?_
                      focus (intro w' hSw; (try dsimp only at hSw); go_split_ands; simp only [List.getElem_toArray, List.getElem_cons_succ, List.getElem_cons_zero]; go_simp; done)
                      simp only [List.getElem_toArray, List.getElem_cons_succ, List.getElem_cons_zero, Act.put, List.setIfInBounds_toArray, List.set_cons_zero, List.set_cons_succ]
                      refine wpAnyH_take (i := 9) (oi := _) (v := .bool true) rfl (by kernel_rfl) (by kernel_rfl) (by kernel_rfl) (fun _ _ _ h => h) (Or.inl ⟨by rfl, ?_⟩) (by assumption) ?_
                      focus (intro w' hSw; (try dsimp only at hSw); go_split_ands; simp only [List.getElem_toArray, List.getElem_cons_succ, List.getElem_cons_zero]; go_simp; done)
                      simp only [List.getElem_toArray, List.getElem_cons_succ, List.getElem_cons_zero, Act.put, List.setIfInBounds_toArray, List.set_cons_zero, List.set_cons_succ]
                      refine wpAnyH_take (i := 10) (oi := _) (v := .bool true) rfl (by kernel_rfl) (by kernel_rfl) (by kernel_rfl) (fun _ _ _ h => h) (Or.inl ⟨by rfl, ?_⟩) (by assumption) ?_
                      focus (intro w' hSw; (try dsimp only at hSw); go_split_ands; simp only [List.getElem_toArray, List.getElem_cons_succ, List.getElem_cons_zero]; go_simp; done)
                      simp only [List.getElem_toArray, List.getElem_cons_succ, List.getElem_cons_zero, Act.put, List.setIfInBounds_toArray, List.set_cons_zero, List.set_cons_succ]
                      refine wpAnyH_take (i := 11) (oi := _) (v := .slice (some ⟨q, 0, none⟩) L.length bu) rfl (by kernel_rfl) (by kernel_rfl) (by kernel_rfl) (fun _ _ _ h => h) (Or.inl ⟨by rfl, ?_⟩) (by assumption) ?_
                      focus (intro w' hSw; (try dsimp only at hSw); go_split_ands; simp only [List.getElem_toArray, List.getElem_cons_succ, List.getElem_cons_zero]; go_simp; done)
                      simp only [List.getElem_toArray, List.getElem_cons_succ, List.getElem_cons_zero, Act.put, List.setIfInBounds_toArray, List.set_cons_zero, List.set_cons_succ]
                      refine wpAnyH_take (i := 12) (oi := _) (v := .int .i64 (k : Int)) rfl (by kernel_rfl) (by kernel_rfl) (by kernel_rfl) (fun _ _ _ h => h) (Or.inl ⟨by rfl, ?_⟩) (by assumption) ?_
                      focus (intro w' hSw; (try dsimp only at hSw); go_split_ands; simp only [List.getElem_toArray, List.getElem_cons_succ, List.getElem_cons_zero]; go_simp; done)
                      simp only [List.getElem_toArray, List.getElem_cons_succ, List.getElem_cons_zero, Act.put, List.setIfInBounds_toArray, List.set_cons_zero, List.set_cons_succ]
                      refine wpAnyH_take (i := 13) (oi := _) (v := .pointer (some ⟨q, k, none⟩)) rfl (by kernel_rfl) (by kernel_rfl) (by kernel_rfl) (fun _ _ _ h => h) (Or.inl ⟨by rfl, ?_⟩) (by assumption) ?_
                      focus (intro w' hSw; (try dsimp only at hSw); go_split_ands; simp only [List.getElem_toArray, List.getElem_cons_succ, List.getElem_cons_zero]; go_simp; done)
                      simp only [List.getElem_toArray, List.getElem_cons_succ, List.getElem_cons_zero, Act.put, List.setIfInBounds_toArray, List.set_cons_zero, List.set_cons_succ]
                      refine wpAnyH_take (i := 14) (oi := _) (v := .int .i64 x) rfl (by kernel_rfl) (by kernel_rfl) (by kernel_rfl) (fun _ _ _ h => h) (Or.inl ⟨by rfl, ?_⟩) (by assumption) ?_
                      focus (intro w' hSw; (try dsimp only at hSw); go_split_ands; simp only [List.getElem_toArray, List.getElem_cons_succ, List.getElem_cons_zero]; go_simp; done)
                      simp only [List.getElem_toArray, List.getElem_cons_succ, List.getElem_cons_zero, Act.put, List.setIfInBounds_toArray, List.set_cons_zero, List.set_cons_succ]
                      refine wpAnyH_take (i := 15) (oi := _) (v := .slice (some ⟨q, 0, none⟩) L.length bu) rfl (by kernel_rfl) (by kernel_rfl) (by kernel_rfl) (fun _ _ _ h => h) (Or.inl ⟨by rfl, ?_⟩) (by assumption) ?_
                      focus (intro w' hSw; (try dsimp only at hSw); go_split_ands; simp only [List.getElem_toArray, List.getElem_cons_succ, List.getElem_cons_zero]; go_simp; done)
                      simp only [List.getElem_toArray, List.getElem_cons_succ, List.getElem_cons_zero, Act.put, List.setIfInBounds_toArray, List.set_cons_zero, List.set_cons_succ]
                      refine wpAnyH_take (i := 16) (oi := _) (v := .int .i64 (k : Int)) rfl (by kernel_rfl) (by kernel_rfl) (by kernel_rfl) (fun _ _ _ h => h) (Or.inl ⟨by rfl, ?_⟩) (by assumption) ?_
                      focus (intro w' hSw; (try dsimp only at hSw); go_split_ands; simp only [List.getElem_toArray, List.getElem_cons_succ, List.getElem_cons_zero]; go_simp; done)
                      simp only [List.getElem_toArray, List.getElem_cons_succ, List.getElem_cons_zero, Act.put, List.setIfInBounds_toArray, List.set_cons_zero, List.set_cons_succ]
                      refine wpAnyH_take (i := 17) (oi := _) (v := .int .i64 ((k - 1 : Nat) : Int)) rfl (by kernel_rfl) (by kernel_rfl) (by kernel_rfl) (fun _ _ _ h => h) (Or.inl ⟨by rfl, ?_⟩) (by assumption) ?_
                      focus (intro w' hSw; (try dsimp only at hSw); go_split_ands; simp only [List.getElem_toArray, List.getElem_cons_succ, List.getElem_cons_zero]; go_simp; done)
                      simp only [List.getElem_toArray, List.getElem_cons_succ, List.getElem_cons_zero, Act.put, List.setIfInBounds_toArray, List.set_cons_zero, List.set_cons_succ]
                      refine wpAnyH_take (i := 18) (oi := _) (v := .pointer (some ⟨q, k - 1, none⟩)) rfl (by kernel_rfl) (by kernel_rfl) (by kernel_rfl) (fun _ _ _ h => h) (Or.inl ⟨by rfl, ?_⟩) (by assumption) ?_
                      focus (intro w' hSw; (try dsimp only at hSw); go_split_ands; simp only [List.getElem_toArray, List.getElem_cons_succ, List.getElem_cons_zero]; go_simp; done)
                      simp only [List.getElem_toArray, List.getElem_cons_succ, List.getElem_cons_zero, Act.put, List.setIfInBounds_toArray, List.set_cons_zero, List.set_cons_succ]
                      refine wpAnyH_take (i := 19) (oi := _) (v := .int .i64 y) rfl (by kernel_rfl) (by kernel_rfl) (by kernel_rfl) (fun _ _ _ h => h) (Or.inl ⟨by rfl, ?_⟩) (by assumption) ?_
                      focus (intro w' hSw; (try dsimp only at hSw); go_split_ands; simp only [List.getElem_toArray, List.getElem_cons_succ, List.getElem_cons_zero]; go_simp; done)
                      simp only [List.getElem_toArray, List.getElem_cons_succ, List.getElem_cons_zero, Act.put, List.setIfInBounds_toArray, List.set_cons_zero, List.set_cons_succ]
                      refine wpAnyH_take (i := 20) (oi := _) (v := .bool true) rfl (by kernel_rfl) (by kernel_rfl) (by kernel_rfl) (fun _ _ _ h => h) (Or.inl ⟨by rfl, ?_⟩) (by assumption) ?_
                      focus (intro w' hSw; (try dsimp only at hSw); go_split_ands; simp only [List.getElem_toArray, List.getElem_cons_succ, List.getElem_cons_zero]; go_simp; done)
                      simp only [List.getElem_toArray, List.getElem_cons_succ, List.getElem_cons_zero, Act.put, List.setIfInBounds_toArray, List.set_cons_zero, List.set_cons_succ]
                      refine wpAnyH_take (i := 21) (oi := _) (v := .bool true) rfl (by kernel_rfl) (by kernel_rfl) (by kernel_rfl) (fun _ _ _ h => h) (Or.inl ⟨by rfl, ?_⟩) (by assumption) ?_
                      focus (intro w' hSw; (try dsimp only at hSw); go_split_ands; simp only [List.getElem_toArray, List.getElem_cons_succ, List.getElem_cons_zero]; go_simp; done)
                      simp only [List.getElem_toArray, List.getElem_cons_succ, List.getElem_cons_zero, Act.put, List.setIfInBounds_toArray, List.set_cons_zero, List.set_cons_succ]
                      refine wpAnyH_take (i := 22) (oi := _) (v := .bool true) rfl (by kernel_rfl) (by kernel_rfl) (by kernel_rfl) (fun _ _ _ h => h) (Or.inl ⟨by rfl, ?_⟩) (by assumption) ?_
                      focus (intro w' hSw; (try dsimp only at hSw); go_split_ands; simp only [List.getElem_toArray, List.getElem_cons_succ, List.getElem_cons_zero]; go_simp; done)
                      simp only [List.getElem_toArray, List.getElem_cons_succ, List.getElem_cons_zero, Act.put, List.setIfInBounds_toArray, List.set_cons_zero, List.set_cons_succ]
                      refine wpAnyH_take (i := 23) (oi := _) (v := .agg #[.int .i64 W, .int .i64 H, .string C]) rfl (by kernel_rfl) (by kernel_rfl) (by kernel_rfl) (fun _ _ _ h => h) (Or.inl ⟨by rfl, ?_⟩) (by assumption) ?_
                      focus (intro w' hSw; (try dsimp only at hSw); go_split_ands; simp only [List.getElem_toArray, List.getElem_cons_succ, List.getElem_cons_zero]; go_simp; done)
                      simp only [List.getElem_toArray, List.getElem_cons_succ, List.getElem_cons_zero, Act.put, List.setIfInBounds_toArray, List.set_cons_zero, List.set_cons_succ]
                      refine wpAnyH_take (i := 24) (oi := _) (v := .slice (some ⟨q, 0, none⟩) L.length bu) rfl (by kernel_rfl) (by kernel_rfl) (by kernel_rfl) (fun _ _ _ h => h) (Or.inl ⟨by rfl, ?_⟩) (by assumption) ?_
                      focus (intro w' hSw; (try dsimp only at hSw); go_split_ands; simp only [List.getElem_toArray, List.getElem_cons_succ, List.getElem_cons_zero]; go_simp; done)
                      simp only [List.getElem_toArray, List.getElem_cons_succ, List.getElem_cons_zero, Act.put, List.setIfInBounds_toArray, List.set_cons_zero, List.set_cons_succ]
                      refine wpAnyH_take (i := 25) (oi := _) (v := .int .i64 (k : Int)) rfl (by kernel_rfl) (by kernel_rfl) (by kernel_rfl) (fun _ _ _ h => h) (Or.inl ⟨by rfl, ?_⟩) (by assumption) ?_
                      focus (intro w' hSw; (try dsimp only at hSw); go_split_ands; simp only [List.getElem_toArray, List.getElem_cons_succ, List.getElem_cons_zero]; go_simp; done)
                      simp only [List.getElem_toArray, List.getElem_cons_succ, List.getElem_cons_zero, Act.put, List.setIfInBounds_toArray, List.set_cons_zero, List.set_cons_succ]
                      refine wpAnyH_take (i := 26) (oi := _) (v := .int .i64 ((k - 1 : Nat) : Int)) rfl (by kernel_rfl) (by kernel_rfl) (by kernel_rfl) (fun _ _ _ h => h) (Or.inl ⟨by rfl, ?_⟩) (by assumption) ?_
                      focus (intro w' hSw; (try dsimp only at hSw); go_split_ands; simp only [List.getElem_toArray, List.getElem_cons_succ, List.getElem_cons_zero]; go_simp; done)
                      simp only [List.getElem_toArray, List.getElem_cons_succ, List.getElem_cons_zero, Act.put, List.setIfInBounds_toArray, List.set_cons_zero, List.set_cons_succ]
                      refine wpAnyH_take (i := 27) (oi := _) (v := .pointer (some ⟨q, k - 1, none⟩)) rfl (by kernel_rfl) (by kernel_rfl) (by kernel_rfl) (fun _ _ _ h => h) (Or.inl ⟨by rfl, ?_⟩) (by assumption) ?_
                      focus (intro w' hSw; (try dsimp only at hSw); go_split_ands; simp only [List.getElem_toArray, List.getElem_cons_succ, List.getElem_cons_zero]; go_simp; done)
                      simp only [List.getElem_toArray, List.getElem_cons_succ, List.getElem_cons_zero, Act.put, List.setIfInBounds_toArray, List.set_cons_zero, List.set_cons_succ]
                      refine wpAnyH_take (i := 28) (oi := _) (v := .int .i64 y) rfl (by kernel_rfl) (by kernel_rfl) (by kernel_rfl) (fun _ _ _ h => h) (Or.inl ⟨by rfl, ?_⟩) (by assumption) ?_
                      focus (intro w' hSw; (try dsimp only at hSw); go_split_ands; simp only [List.getElem_toArray, List.getElem_cons_succ, List.getElem_cons_zero]; go_simp; done)
                      simp only [List.getElem_toArray, List.getElem_cons_succ, List.getElem_cons_zero, Act.put, List.setIfInBounds_toArray, List.set_cons_zero, List.set_cons_succ]
                      refine wpAnyH_take (i := 29) (oi := _) (v := .slice (some ⟨q, 0, none⟩) L.length bu) rfl (by kernel_rfl) (by kernel_rfl) (by kernel_rfl) (fun _ _ _ h => h) (Or.inl ⟨by rfl, ?_⟩) (by assumption) ?_
                      focus (intro w' hSw; (try dsimp only at hSw); go_split_ands; simp only [List.getElem_toArray, List.getElem_cons_succ, List.getElem_cons_zero]; go_simp; done)
                      simp only [List.getElem_toArray, List.getElem_cons_succ, List.getElem_cons_zero, Act.put, List.setIfInBounds_toArray, List.set_cons_zero, List.set_cons_succ]
                      refine wpAnyH_take (i := 30) (oi := _) (v := .int .i64 (k : Int)) rfl (by kernel_rfl) (by kernel_rfl) (by kernel_rfl) (fun _ _ _ h => h) (Or.inl ⟨by rfl, ?_⟩) (by assumption) ?_
                      focus (intro w' hSw; (try dsimp only at hSw); go_split_ands; simp only [List.getElem_toArray, List.getElem_cons_succ, List.getElem_cons_zero]; go_simp; done)
                      simp only [List.getElem_toArray, List.getElem_cons_succ, List.getElem_cons_zero, Act.put, List.setIfInBounds_toArray, List.set_cons_zero, List.set_cons_succ]
                      refine wpAnyH_take (i := 31) (oi := _) (v := .pointer (some ⟨q, k, none⟩)) rfl (by kernel_rfl) (by kernel_rfl) (by kernel_rfl) (fun _ _ _ h => h) (Or.inl ⟨by rfl, ?_⟩) (by assumption) ?_
                      focus (intro w' hSw; (try dsimp only at hSw); go_split_ands; simp only [List.getElem_toArray, List.getElem_cons_succ, List.getElem_cons_zero]; go_simp; done)
                      simp only [List.getElem_toArray, List.getElem_cons_succ, List.getElem_cons_zero, Act.put, List.setIfInBounds_toArray, List.set_cons_zero, List.set_cons_succ]
                      refine wpAnyH_take (i := 32) (oi := _) (v := .int .i64 x) rfl (by kernel_rfl) (by kernel_rfl) (by kernel_rfl) (fun _ _ _ h => h) (Or.inl ⟨by rfl, ?_⟩) (by assumption) ?_
                      focus (intro w' hSw; (try dsimp only at hSw); go_split_ands; simp only [List.getElem_toArray, List.getElem_cons_succ, List.getElem_cons_zero]; go_simp; done)
                      simp only [List.getElem_toArray, List.getElem_cons_succ, List.getElem_cons_zero, Act.put, List.setIfInBounds_toArray, List.set_cons_zero, List.set_cons_succ]
                      refine wpAnyH_ready (rs := [33]) (by kernel_rfl) (by simp) ?_
                      refine AllReadyH.cons rfl (fun K hK => ?_) AllReadyH.nil
                      simp only [List.getElem_toArray, List.getElem_cons_succ, List.getElem_cons_zero]
                      go_simp
                      go_at_call 33
                      have hB33 : Below ((w.alloc (.cells #[.int .i64 W, .int .i64 H, .string C] 25)).alloc (.cells #[.int .i64 (t : Int), .int .i64 M, .slice (some ⟨g, 0, none⟩) Ws.length cv] 29)).heap.size ((w.alloc (.cells #[.int .i64 W, .int .i64 H, .string C] 25)).alloc (.cells #[.int .i64 (t : Int), .int .i64 M, .slice (some ⟨g, 0, none⟩) Ws.length cv] 29)) _ := hHeld.2.2.2.2.2
                      refine (specBeside W H C y x false hC HR _).mono ?_
                      rintro e w9 ⟨rfl, hb⟩
                      have hS33 := held_two (k := k) (l := k - 1) (x := .int .i64 x) (y := .int .i64 y) hB33 hb hHeld.2.2.2.1 hHeld.2.2.2.2.1 hq
                      clear hb hHeld
                      refine hK.out _ _ hS33 (fun hHeld => ?_)
                      clear hK K hS33
                      refine wpAnyH_take (i := 34) (oi := _) (v := .bool true) rfl (by kernel_rfl) (by kernel_rfl) (by kernel_rfl) (fun _ _ _ h => h) (Or.inl ⟨by rfl, ?_⟩) (by assumption) ?_
                      focus (intro w' hSw; (try dsimp only at hSw); go_split_ands; simp only [List.getElem_toArray, List.getElem_cons_succ, List.getElem_cons_zero]; go_simp; done)
                      simp only [List.getElem_toArray, List.getElem_cons_succ, List.getElem_cons_zero, Act.put, List.setIfInBounds_toArray, List.set_cons_zero, List.set_cons_succ]
                      refine wpAnyH_take (i := 35) (oi := _) (v := .bool true) rfl (by kernel_rfl) (by kernel_rfl) (by kernel_rfl) (fun _ _ _ h => h) (Or.inl ⟨by rfl, ?_⟩) (by assumption) ?_
                      focus (intro w' hSw; (try dsimp only at hSw); go_split_ands; simp only [List.getElem_toArray, List.getElem_cons_succ, List.getElem_cons_zero]; go_simp; done)
                      simp only [List.getElem_toArray, List.getElem_cons_succ, List.getElem_cons_zero, Act.put, List.setIfInBounds_toArray, List.set_cons_zero, List.set_cons_succ]
                      refine wpAnyH_take (i := 36) (oi := _) (v := .bool true) rfl (by kernel_rfl) (by kernel_rfl) (by kernel_rfl) (fun _ _ _ h => h) (Or.inl ⟨by rfl, ?_⟩) (by assumption) ?_
                      focus (intro w' hSw; (try dsimp only at hSw); go_split_ands; simp only [List.getElem_toArray, List.getElem_cons_succ, List.getElem_cons_zero]; go_simp; done)
                      simp only [List.getElem_toArray, List.getElem_cons_succ, List.getElem_cons_zero, Act.put, List.setIfInBounds_toArray, List.set_cons_zero, List.set_cons_succ]
                      refine wpAnyH_done (by kernel_rfl) ?_ _
                      have HBE := Lib.hid hHeld.2.2.2.2.2
                      clear hHeld hS0
                      go_wp2_with fail
                      go_ret
                      exact ⟨rfl, (two_cellsS HBE.out).1⟩
            · have hnl : ¬ (k : Int) < (L.length : Int) := by omega
              have HWY : Hid (wayB W H C L = true) := Lib.hid (wayB_yes fun m hm => HM.out m (by omega))
              clear d1
              go_wp2_with fail
              go_roundw
              case rel => exact ⟨j + 1, by omega, by go_num, Lib.hid fun m N h1 hN => (by
                rcases Nat.lt_succ_iff_lt_or_eq.1 h1 with h | h
                · exact HK.out m N h hN
                · rw [h, HXL.out] at hN
                  cases hN
                  exact HWY.out), HBX.out⟩
              case measure => simp [intOf]; omega
        · obtain rfl : j = Ws.length := by omega
          have hnl : ¬ (Ws.length : Int) < (Ws.length : Int) := by omega
          have hst : stepsV W H C Ws = true := stepsV_yes fun k L hL => HK.out k L (List.getElem?_eq_some_iff.1 hL).1 hL
          have HXC : Hid ((if crossV Ws t = 0 then endV G M Ws else crossV Ws t) = c) := Lib.hid (by
            rw [← HXX.out, hst]
            exact (if_neg (by decide)).symm)
          have HME : Hid (∀ (s : Nat) (wx : World), s ≤ 20 → Below w.heap.size w wx → ∀ q, meetV Ws (s : Int) = q → Calls Tryz.prog 34 #[.slice av Ws.length cv, .int .i64 (s : Int)] wx (Made wx (.bool q))) := Lib.hid fun s wx hs hB q hq => specMeet _ Ws s q hW HT.out (Lib.hid hq) wx (waysAt_on HVV.out hB) (WalkArith.wf_i64 (by omega))
          have HSE : Hid (∀ (s : Nat) (wx : World), s ≤ 20 → Below w.heap.size w wx → ∀ q, swapsV Ws (s : Int) = q → Calls Tryz.prog 35 #[.slice av Ws.length cv, .int .i64 (s : Int)] wx (Made wx (.int .i64 (q : Int)))) := Lib.hid fun s wx hs hB q hq => specSwaps _ Ws s q hW HT.out (Lib.hid hq) wx (waysAt_on HVV.out hB) (WalkArith.wf_i64 (by omega))
          have HRE : Hid (∀ (s : Nat) (wx : World), s ≤ 20 → Below w.heap.size w wx → ∀ q, ringsV Ws (s : Int) = q → Calls Tryz.prog 36 #[.slice av Ws.length cv, .int .i64 (s : Int)] wx (Made wx (.int .i64 (q : Int)))) := Lib.hid fun s wx hs hB q hq => specRings _ Ws s q hW HT.out (Lib.hid hq) wx (waysAt_on HVV.out hB) (WalkArith.wf_i64 (by omega))
          clear hst HXX HFO HLN HFR HK hB
          go_wp2_with fail
          go_loopw [12, 13] (fun x _ wx => ∃ d : Nat, 4 ≤ d ∧ d ≤ 7 ∧ x = .int .i64 (d : Int) ∧ Hid (∀ e, 4 ≤ e → e < d → ∀ s, s < t → codeF Ws e s = false) ∧ Below ((w.alloc (.cells #[.int .i64 W, .int .i64 H, .string C] 25)).alloc (.cells #[.int .i64 (t : Int), .int .i64 M, .slice av Ws.length cv] 29)).heap.size ((w.alloc (.cells #[.int .i64 W, .int .i64 H, .string C] 25)).alloc (.cells #[.int .i64 (t : Int), .int .i64 M, .slice av Ws.length cv] 29)) wx) (fun x _ _ => 7 - (intOf x).toNat)
          case atStart => exact ⟨4, by omega, by omega, rfl, Lib.hid fun e h1 h2 => by omega, HBr.out⟩
          case round =>
            clear c0 c1 c2 p0 p1 p2
            obtain ⟨d, hd4, hd7, rfl, HKD, hB⟩ := hrel
            by_cases hd : d ≤ 6
            · have hd6 : (d : Int) ≤ 6 := by omega
              have HB1 := Lib.hid hB
              clear hB
              go_wp2_with fail
              go_loopw [13] (fun x wx => ∃ s : Nat, s ≤ t ∧ x = .int .i64 (s : Int) ∧ Hid (∀ r, r < s → codeF Ws d r = false) ∧ Below ((w.alloc (.cells #[.int .i64 W, .int .i64 H, .string C] 25)).alloc (.cells #[.int .i64 (t : Int), .int .i64 M, .slice av Ws.length cv] 29)).heap.size ((w.alloc (.cells #[.int .i64 W, .int .i64 H, .string C] 25)).alloc (.cells #[.int .i64 (t : Int), .int .i64 M, .slice av Ws.length cv] 29)) wx) (fun x _ => t - (intOf x).toNat)
              case atStart => exact ⟨0, Nat.zero_le _, rfl, Lib.hid fun r h => absurd h (by omega), HB1.out⟩
              case round =>
                clear HB1
                obtain ⟨s, hs, rfl, HKS, hB⟩ := hrel
                obtain ⟨hbw, c0, c1, c2, p0, p1, p2⟩ := two_cellsS hB
                by_cases hlt : s < t
                · have hlt2 : (s : Int) < (t : Int) := by omega
                  have HBW := Lib.hid hB
                  clear hB
                  by_cases hc4 : d = 4
                  · have HD := Lib.hid hc4
                    have hq4 : ((d : Int) == 4) = true := by rw [beq_iff_eq]; omega
                    have hq5 : ((d : Int) == 5) = false := by rw [beq_eq_false_iff_ne]; omega
                    have hq6 : ((d : Int) == 6) = false := by rw [beq_eq_false_iff_ne]; omega
                    clear hc4
                    obtain ⟨q, HQ⟩ : ∃ q, Hid (meetV Ws (s : Int) = q) := ⟨_, rfl⟩
                    have HCQ := Lib.hid (HME.out s wr (by omega) hbw q HQ.out)
                    have HCF : Hid (codeF Ws d s = q) := Lib.hid (by unfold codeF; rw [HD.out, if_pos rfl]; exact HQ.out)
                    cases q with
                    | true =>
                      have e : crossV Ws t = d := cross_at ⟨hd4, hd⟩ hlt (by rw [HCF.out]) HKD.out
                      obtain rfl : c = d := by rw [← HXC.out, if_neg (by rw [e]; omega), e]
                      clear e
                      go_wp2_with fail
                      refine HCQ.out.mono ?_
                      rintro e w9 ⟨rfl, hb⟩
                      have HB9 := Lib.hid (HBW.out.trans (hb.mono HBW.out.size))
                      clear hb
                      go_wp2_with fail
                      go_ret
                      exact ⟨rfl, (two_cellsS HB9.out).1⟩
                    | false =>
                      go_wp2_with fail
                      refine HCQ.out.mono ?_
                      rintro e w9 ⟨rfl, hb⟩
                      have HB9 := Lib.hid (HBW.out.trans (hb.mono HBW.out.size))
                      clear hb
                      go_wp2_with fail
                      go_roundw
                      case rel => exact ⟨s + 1, by omega, by go_num, Lib.hid fun r hr => (by
                        rcases Nat.lt_succ_iff_lt_or_eq.1 hr with h | h
                        · exact HKS.out r h
                        · rw [h, HCF.out]), HB9.out⟩
                      case measure => simp [intOf]; omega
                  · by_cases hc5 : d = 5
                    · have HD := Lib.hid hc5
                      have hq4 : ((d : Int) == 4) = false := by rw [beq_eq_false_iff_ne]; omega
                      have hq5 : ((d : Int) == 5) = true := by rw [beq_iff_eq]; omega
                      have hq6 : ((d : Int) == 6) = false := by rw [beq_eq_false_iff_ne]; omega
                      clear hc5
                      obtain ⟨q, HQ⟩ : ∃ q, Hid (swapsV Ws (s : Int) = q) := ⟨_, rfl⟩
                      have HCQ := Lib.hid (HSE.out s wr (by omega) hbw q HQ.out)
                      have HCF : Hid (codeF Ws d s = decide (0 < q)) := Lib.hid (by unfold codeF; rw [HD.out, if_neg (by decide), if_pos rfl, HQ.out])
                      by_cases hq0 : 0 < q
                      · have hq1 : (0 : Int) < (q : Int) := by omega
                        have e : crossV Ws t = d := cross_at ⟨hd4, hd⟩ hlt (by rw [HCF.out]; exact decide_eq_true hq0) HKD.out
                        obtain rfl : c = d := by rw [← HXC.out, if_neg (by rw [e]; omega), e]
                        clear e
                        go_wp2_with fail
                        refine HCQ.out.mono ?_
                        rintro e w9 ⟨rfl, hb⟩
                        have HB9 := Lib.hid (HBW.out.trans (hb.mono HBW.out.size))
                        clear hb
                        go_wp2_with fail
                        go_ret
                        exact ⟨rfl, (two_cellsS HB9.out).1⟩
                      · have hq1 : ¬ (0 : Int) < (q : Int) := by omega
                        go_wp2_with fail
                        refine HCQ.out.mono ?_
                        rintro e w9 ⟨rfl, hb⟩
                        have HB9 := Lib.hid (HBW.out.trans (hb.mono HBW.out.size))
                        clear hb
                        go_wp2_with fail
                        go_roundw
                        case rel => exact ⟨s + 1, by omega, by go_num, Lib.hid fun r hr => (by
                          rcases Nat.lt_succ_iff_lt_or_eq.1 hr with h | h
                          · exact HKS.out r h
                          · rw [h, HCF.out]; exact decide_eq_false hq0), HB9.out⟩
                        case measure => simp [intOf]; omega
                    · have HD : Hid (d = 6) := Lib.hid (by omega)
                      have hq4 : ((d : Int) == 4) = false := by rw [beq_eq_false_iff_ne]; omega
                      have hq5 : ((d : Int) == 5) = false := by rw [beq_eq_false_iff_ne]; omega
                      have hq6 : ((d : Int) == 6) = true := by rw [beq_iff_eq]; omega
                      obtain ⟨q, HQ⟩ : ∃ q, Hid (ringsV Ws (s : Int) = q) := ⟨_, rfl⟩
                      have HCQ := Lib.hid (HRE.out s wr (by omega) hbw q HQ.out)
                      have HCF : Hid (codeF Ws d s = decide (0 < q)) := Lib.hid (by unfold codeF; rw [HD.out, if_neg (by decide), if_neg (by decide), HQ.out])
                      by_cases hq0 : 0 < q
                      · have hq1 : (0 : Int) < (q : Int) := by omega
                        have e : crossV Ws t = d := cross_at ⟨hd4, hd⟩ hlt (by rw [HCF.out]; exact decide_eq_true hq0) HKD.out
                        obtain rfl : c = d := by rw [← HXC.out, if_neg (by rw [e]; omega), e]
                        clear e
                        go_wp2_with fail
                        refine HCQ.out.mono ?_
                        rintro e w9 ⟨rfl, hb⟩
                        have HB9 := Lib.hid (HBW.out.trans (hb.mono HBW.out.size))
                        clear hb
                        go_wp2_with fail
                        go_ret
                        exact ⟨rfl, (two_cellsS HB9.out).1⟩
                      · have hq1 : ¬ (0 : Int) < (q : Int) := by omega
                        go_wp2_with fail
                        refine HCQ.out.mono ?_
                        rintro e w9 ⟨rfl, hb⟩
                        have HB9 := Lib.hid (HBW.out.trans (hb.mono HBW.out.size))
                        clear hb
                        go_wp2_with fail
                        go_roundw
                        case rel => exact ⟨s + 1, by omega, by go_num, Lib.hid fun r hr => (by
                          rcases Nat.lt_succ_iff_lt_or_eq.1 hr with h | h
                          · exact HKS.out r h
                          · rw [h, HCF.out]; exact decide_eq_false hq0), HB9.out⟩
                        case measure => simp [intOf]; omega
                · obtain rfl : s = t := by omega
                  have hnl : ¬ (s : Int) < (s : Int) := by omega
                  go_wp2_with fail
                  go_roundw
                  case rel => exact ⟨d + 1, by omega, by omega, by go_num, Lib.hid fun e h1 h2 => (by
                    rcases Nat.lt_succ_iff_lt_or_eq.1 h2 with h | h
                    · exact HKD.out e h1 h
                    · rw [h]; exact HKS.out), hB⟩
                  case measure => simp [intOf]; omega
            · obtain rfl : d = 7 := by omega
              have hcr : crossV Ws t = 0 := cross_none HKD.out
              have HEX : Hid (endV G M Ws = c) := Lib.hid (by rw [← HXC.out, if_pos hcr])
              obtain ⟨R, HR⟩ : ∃ R, Hid (onceL (lastsL Ws) = R) := ⟨_, rfl⟩
              obtain ⟨n, HN⟩ : ∃ n, Hid (movesW Ws = n) := ⟨_, rfl⟩
              have HRL : Hid (R.length ≤ 2000000) := Lib.hid (by
                rw [← HR.out]
                exact Nat.le_trans (once_len _) (Nat.le_trans (lasts_len Ws) HT.out))
              obtain ⟨hbw, c0, c1, c2, p0, p1, p2⟩ := two_cellsS hB
              have HE := Lib.hid (specEnds _ Ws R hW HT.out HR wr (waysAt_on HVV.out hbw))
              have HBW := Lib.hid hB
              clear hcr HXC HKD HME HSE HRE hB hbw
              go_wp2_with fail
              refine HE.out.mono ?_
              rintro e w5 ⟨ve, rfl, hown, hb⟩
              obtain ⟨ae, ce, rfl⟩ := own_form hown
              have HB5 := Lib.hid (HBW.out.trans (hb.mono HBW.out.size))
              have HRW := Lib.hid (ints_of_own hown)
              clear hown hb HE c0 c1 c2 p0 p1 p2
              go_wp2_with fail
              go_loopw [15] (fun i wx => ∃ j : Nat, j ≤ G.length ∧ i = .int .i64 (j : Int) ∧ Hid (∀ (k : Nat) d, k < j → G[k]? = some d → R.contains d = true) ∧ wx = w5) (fun i _ => G.length - (intOf i).toNat)
              case atStart => exact ⟨0, Nat.zero_le _, rfl, Lib.hid fun k d h => absurd h (by omega), rfl⟩
              case round =>
                obtain ⟨j, hj, rfl, HK, rfl⟩ := hrel
                by_cases hlt : j < G.length
                · have hlt2 : (j : Int) < (G.length : Int) := by omega
                  obtain ⟨d, hd⟩ : ∃ d, G[j]? = some d := ⟨_, List.getElem?_eq_getElem hlt⟩
                  obtain ⟨_, _, e, HI⟩ := ints_form (ints_on HGG.out (two_cellsS HB5.out).1)
                  injection e with e1 e2 e3
                  subst e1
                  clear e2 e3
                  rcases HI with h0 | ⟨g, rfl, hgl, hc⟩
                  · omega
                  · have d0 := hc j d hd
                    obtain ⟨r, HRR⟩ : ∃ r, Hid (R.contains d = r) := ⟨_, rfl⟩
                    have HCC := Lib.hid (specHas _ R d r wr HRW.out HRR HRL.out)
                    have HD := Lib.hid hd
                    clear hc hd
                    cases r with
                    | true =>
                      go_wp2_with fail
                      refine HCC.out.mono ?_
                      rintro e w2 ⟨rfl, rfl⟩
                      go_wp2_with fail
                      go_roundw
                      case rel => exact ⟨j + 1, by omega, by go_num, Lib.hid fun k d2 h1 h2 => (by
                        rcases Nat.lt_succ_iff_lt_or_eq.1 h1 with h | h
                        · exact HK.out k d2 h h2
                        · rw [h, HD.out] at h2
                          cases h2
                          exact HRR.out), (by first | trivial | rfl)⟩
                      case measure => simp [intOf]; omega
                    | false =>
                      obtain rfl : c = 7 := by rw [← HEX.out]; exact endS_no HD.out (by rw [HR.out]; exact HRR.out)
                      go_wp2_with fail
                      refine HCC.out.mono ?_
                      rintro e w2 ⟨rfl, rfl⟩
                      go_wp2_with fail
                      go_ret
                      exact ⟨rfl, (two_cellsS HB5.out).1⟩
                · obtain rfl : j = G.length := by omega
                  have hnl : ¬ (G.length : Int) < (G.length : Int) := by omega
                  have hc : c = if M ≠ (n : Int) then 8 else 0 := by
                    rw [← HEX.out, endS_yes fun k d hd => by rw [HR.out]; exact HK.out k d (List.getElem?_eq_some_iff.1 hd).1 hd, HN.out]
                  obtain ⟨hbw, c0, c1, c2, p0, p1, p2⟩ := two_cellsS HB5.out
                  have HMV : Hid (∀ m, Calls Tryz.prog 39 #[.slice av Ws.length cv] (wr.drewN m) fun e w' => e = .returned (.int .i64 n) ∧ ∃ q, w' = wr.drewN q) := Lib.hid fun m => (specMoves _ Ws n hW HT.out HN _ (waysAt_on HVV.out (below_drewN hbw m))).mono fun _ _ ⟨he, q, hq⟩ => ⟨he, m + q, by rw [hq]; simp [World.drewN, Nat.add_assoc]⟩
                  by_cases hM : M = (n : Int)
                  · have hb : (M != (n : Int)) = false := by simp [hM]
                    rw [if_neg (by simp [hM])] at hc
                    subst hc
                    clear hM
                    go_wp2_with fail
                    go_quiet ((go_at_call 39; exact HMV.out _))
                    go_wp2_with fail
                    go_ret
                    exact ⟨rfl, below_drewN hbw _⟩
                  · have hb : (M != (n : Int)) = true := by simpa using hM
                    rw [if_pos hM] at hc
                    subst hc
                    clear hM
                    go_wp2_with fail
                    go_quiet ((go_at_call 39; exact HMV.out _))
                    go_wp2_with fail
                    go_ret
                    exact ⟨rfl, below_drewN hbw _⟩

end Go.Proofs.YthnmapomhgjblaaGreatDoor

