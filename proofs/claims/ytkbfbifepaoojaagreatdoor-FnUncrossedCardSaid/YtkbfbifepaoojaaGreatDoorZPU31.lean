/-
  CONTRACTS of the program's endFault, checkPlan and PlanFault. No law is proved here.
  CONTRACTS of the program's checkPlan and PlanFault. No law is proved here.
-/
import Derived.Test.YtkbfbifepaoojaaGreatDoorZPU23
import Derived.Test.YtkbfbifepaoojaaGreatDoorZPU26
import Derived.Test.YtkbfbifepaoojaaGreatDoorZPU28
import Derived.Test.YtkbfbifepaoojaaGreatDoorZPU29
import Derived.Test.YtkbfbifepaoojaaGreatDoorZPU30
import Derived.Deep.RegionHeld3
import Derived.Deep.RegionWith
import Derived.BigRegion
namespace Go.Proofs.YtkbfbifepaoojaaGreatDoor
set_option maxRecDepth 4096
open Go.ChangeShapes Go.WideShapes Go.ChangeAt Go.RowKit

theorem end_no {G : List Int} {M : Int} {Ws : List (List Int)} {j : Nat} {d : Int} (hd : G[j]? = some d) (h : (onceL (lastsL Ws)).contains d = false) : endV G M Ws = 7 := by
  unfold endV
  refine if_pos ?_
  cases e : G.all fun d => (onceL (lastsL Ws)).contains d with
  | false => rfl
  | true =>
    have := List.all_eq_true.1 e d (List.mem_of_getElem? hd)
    rw [h] at this
    cases this
theorem end_yes {G : List Int} {M : Int} {Ws : List (List Int)} (h : ∀ (j : Nat) d, G[j]? = some d → (onceL (lastsL Ws)).contains d = true) : endV G M Ws = if M ≠ (movesW Ws : Int) then 8 else 0 := by
  unfold endV
  refine if_neg ?_
  have : (G.all fun d => (onceL (lastsL Ws)).contains d) = true := List.all_eq_true.2 fun d hd => by
    obtain ⟨j, hj, rfl⟩ := List.getElem_of_mem hd
    exact h j _ (List.getElem?_eq_getElem hj)
  rw [this]
  decide

/-- The plan's box, while a call goes on. -/
theorem held_plan {w w' w'' : World} {a b c : Value} {t : TypeId} (h : Below (w.alloc (.cells #[a, b, c] t)).heap.size (w.alloc (.cells #[a, b, c] t)) w') (hb : Below w'.heap.size w' w'') :
    w''.cell? ⟨w.heap.size, 1, none⟩ = some b ∧ w''.cell? ⟨w.heap.size, 2, none⟩ = some c ∧ Below (w.alloc (.cells #[a, b, c] t)).heap.size (w.alloc (.cells #[a, b, c] t)) w'' := by
  have h2 := h.trans (hb.mono h.size)
  obtain ⟨_, p1, p2⟩ := pair_cells h2
  exact ⟨p1, p2, h2⟩

set_option maxHeartbeats 4000000 in
theorem implEnd (vg v : Value) (G : List Int) (Ws : List (List Int)) (T M : Int) (c : Nat) (hG : G.length ≤ 2000000) (hW : Ws.length ≤ 2000000) (hT : totW Ws ≤ 2000000) (HX : Hid (endV G M Ws = c)) (w : World) (hg : Ints w vg G) (hv : WaysAt w v Ws) :
    Calls Tryz.prog 81 #[vg, .agg #[.int .i64 T, .int .i64 M, v]] w (Made w (errV c)) := by
  obtain ⟨R, HR⟩ : ∃ R, Hid (onceL (lastsL Ws) = R) := ⟨_, rfl⟩
  obtain ⟨n, HN⟩ : ∃ n, Hid (movesW Ws = n) := ⟨_, rfl⟩
  have hRl : R.length ≤ 2000000 := by
    rw [← HR.out]
    exact Nat.le_trans (once_len _) (Nat.le_trans (lasts_len Ws) hT)
  have hB := Below.refl (w.alloc (.cells #[.int .i64 T, .int .i64 M, v] 29)).heap.size (w.alloc (.cells #[.int .i64 T, .int .i64 M, v] 29))
  have HB0 := Lib.hid hB
  have HE := Lib.hid (implEnds v Ws R hW hT HR _ (waysAt_on hv (box_below hB)))
  have HMV : Hid (∀ wr, Below w.heap.size w wr → Calls Tryz.prog 14 #[v] wr (Made wr (.int .i64 (n : Int)))) := Lib.hid fun wr hb => implMoves v Ws n hW hT HN wr (waysAt_on hv hb)
  have HGG := Lib.hid hg
  obtain ⟨p0, p1, p2⟩ := pair_cells hB
  obtain ⟨av, cv, rfl, _⟩ := hv
  obtain ⟨ag, cg, rfl, _⟩ := ints_form hg
  clear hT hB hg
  go_enter Tryz.func81, Tryz.ntmps81
  go_wp2_with fail
  refine HE.out.mono ?_
  rintro e w1 ⟨ve, rfl, hown, hb⟩
  obtain ⟨ae, ce, rfl⟩ := own_form hown
  have HB1 := Lib.hid (chain HB0.out hb)
  have HRW := Lib.hid (ints_of_own hown)
  clear HB0 HE hown hb p0 p1 p2
  go_wp2_with fail
  go_loopw [7, 13] (fun _ i wr => ∃ j : Nat, j ≤ G.length ∧ i = .int .i64 (j : Int) ∧ Hid (∀ (k : Nat) d, k < j → G[k]? = some d → R.contains d = true) ∧ wr = w1) (fun _ i _ => G.length - (intOf i).toNat)
  case atStart => exact ⟨0, Nat.zero_le _, rfl, Lib.hid fun k d h => absurd h (by omega), rfl⟩
  case round =>
    obtain ⟨j, hj, rfl, HK, rfl⟩ := hrel
    by_cases hlt : j < G.length
    · have hlt2 : (j : Int) < (G.length : Int) := by omega
      obtain ⟨d, hd⟩ : ∃ d, G[j]? = some d := ⟨_, List.getElem?_eq_getElem hlt⟩
      obtain ⟨_, _, e, HI⟩ := ints_form (ints_on HGG.out (box_below HB1.out))
      injection e with e1 e2 e3
      subst e1
      clear e2 e3
      rcases HI with h0 | ⟨g, rfl, hgl, hc⟩
      · omega
      · have d0 := hc j d hd
        obtain ⟨r, HRR⟩ : ∃ r, Hid (R.contains d = r) := ⟨_, rfl⟩
        have HCC := Lib.hid (containsI R d _ r hRl HRR wr HRW.out)
        have HD := Lib.hid hd
        clear hc hd
        cases r with
        | true =>
          go_wp2_with fail
          refine HCC.out.mono ?_
          rintro e w2 ⟨rfl, rfl⟩
          go_wp2_with fail
          go_roundw
          case rel => exact ⟨j + 1, by omega, by go_num, Lib.hid fun k d2 h1 h2 => (by
            rcases Nat.lt_succ_iff_lt_or_eq.1 h1 with h | h
            · exact HK.out k d2 h h2
            · rw [h, HD.out] at h2
              cases h2
              exact HRR.out), (by first | trivial | rfl)⟩
          case measure => simp [intOf]; omega
        | false =>
          obtain rfl : c = 7 := by rw [← HX.out]; exact end_no HD.out (by rw [HR.out]; exact HRR.out)
          go_wp2_with fail
          refine HCC.out.mono ?_
          rintro e w2 ⟨rfl, rfl⟩
          go_wp2_with fail
          go_ret
          exact ⟨rfl, box_below HB1.out⟩
    · obtain rfl : j = G.length := by omega
      have hnl : ¬ (G.length : Int) < (G.length : Int) := by omega
      have hc : c = if M ≠ (n : Int) then 8 else 0 := by
        rw [← HX.out, end_yes fun k d hd => by rw [HR.out]; exact HK.out k d (List.getElem?_eq_some_iff.1 hd).1 hd, HN.out]
      obtain ⟨p0, p1, p2⟩ := pair_cells HB1.out
      have hS0 : wr.drew.cell? ⟨w.heap.size, 1, none⟩ = some (.int .i64 M) ∧ wr.drew.cell? ⟨w.heap.size, 2, none⟩ = some (.slice av Ws.length cv) ∧ Below (w.alloc (.cells #[.int .i64 T, .int .i64 M, .slice av Ws.length cv] 29)).heap.size (w.alloc (.cells #[.int .i64 T, .int .i64 M, .slice av Ws.length cv] 29)) wr.drew := ⟨p1, p2, HB1.out.drew⟩
      by_cases hM : M = (n : Int)
      · have hb : (M != (n : Int)) = false := by simp [hM]
        rw [if_neg (by simp [hM])] at hc
        subst hc
        clear hM
        go_wp2
        go_region_held3 (fun w' => w'.cell? ⟨w.heap.size, 1, none⟩ = some (.int .i64 M) ∧ w'.cell? ⟨w.heap.size, 2, none⟩ = some (.slice av Ws.length cv) ∧ Below (w.alloc (.cells #[.int .i64 T, .int .i64 M, .slice av Ws.length cv] 29)).heap.size (w.alloc (.cells #[.int .i64 T, .int .i64 M, .slice av Ws.length cv] 29)) w')
          (first | exact hS | exact hS0 | go_keep)
          (first | (go_at_call 14; (try go_split_ands); have hB0 : Below (w.alloc (.cells #[.int .i64 T, .int .i64 M, .slice av Ws.length cv] 29)).heap.size (w.alloc (.cells #[.int .i64 T, .int .i64 M, .slice av Ws.length cv] 29)) _ := (by assumption); (with_reducible refine (HMV.out _ (box_below hB0)).mono ?_); rintro e w9 ⟨rfl, hb⟩; (try go_split_ands); have hS := held_plan hB0 hb; clear hb))
        all_goals
          go_wp2_with fail
          go_ret
          exact ⟨rfl, box_below hS.2.2⟩
      · have hb : (M != (n : Int)) = true := by simpa using hM
        rw [if_pos hM] at hc
        subst hc
        clear hM
        go_wp2
        go_region_held3 (fun w' => w'.cell? ⟨w.heap.size, 1, none⟩ = some (.int .i64 M) ∧ w'.cell? ⟨w.heap.size, 2, none⟩ = some (.slice av Ws.length cv) ∧ Below (w.alloc (.cells #[.int .i64 T, .int .i64 M, .slice av Ws.length cv] 29)).heap.size (w.alloc (.cells #[.int .i64 T, .int .i64 M, .slice av Ws.length cv] 29)) w')
          (first | exact hS | exact hS0 | go_keep)
          (first | (go_at_call 14; (try go_split_ands); have hB0 : Below (w.alloc (.cells #[.int .i64 T, .int .i64 M, .slice av Ws.length cv] 29)).heap.size (w.alloc (.cells #[.int .i64 T, .int .i64 M, .slice av Ws.length cv] 29)) _ := (by assumption); (with_reducible refine (HMV.out _ (box_below hB0)).mono ?_); rintro e w9 ⟨rfl, hb⟩; (try go_split_ands); have hS := held_plan hB0 hb; clear hb))
        all_goals
          go_wp2_with fail
          go_ret
          exact ⟨rfl, box_below hS.2.2⟩

end Go.Proofs.YtkbfbifepaoojaaGreatDoor

namespace Go.Proofs.YtkbfbifepaoojaaGreatDoor
set_option maxRecDepth 4096
open Go.ChangeShapes Go.WideShapes Go.ChangeAt Go.RowKit

theorem ask_small {W H : Int} {C : ByteArray} {S G : List Int} {T : Int} (h : askV W H C S G T = true) : ∃ t : Nat, T = (t : Int) ∧ t ≤ 20 := by
  rw [ask_eq] at h
  simp only [Bool.and_eq_true] at h
  obtain ⟨_, _, _, _, _, _, _, h8, _⟩ := h
  obtain ⟨h1, h2⟩ := rgB_iff.1 h8
  exact ⟨T.toNat, by omega, by omega⟩
theorem plan_ask {W H : Int} {C : ByteArray} {S G : List Int} {M : Int} {Ws : List (List Int)} {t : Nat} (h : askV W H C S G (t : Int) = true) : planV W H C S G t M Ws = if formV S t Ws = false then 2 else if stepsV W H C Ws = false then 3 else if crossV Ws t = 0 then endV G M Ws else crossV Ws t := by
  unfold planV
  rw [h, Int.toNat_natCast]
  exact if_neg (by decide)
/-- Two boxes: a grid's and a plan's. -/
theorem two_cells {w w1 : World} {a b c d e f : Value} {t u : TypeId} (h : Below ((w.alloc (.cells #[a, b, c] t)).alloc (.cells #[d, e, f] u)).heap.size ((w.alloc (.cells #[a, b, c] t)).alloc (.cells #[d, e, f] u)) w1) :
    Below w.heap.size w w1 ∧ w1.cell? ⟨w.heap.size, 0, none⟩ = some a ∧ w1.cell? ⟨w.heap.size, 1, none⟩ = some b ∧ w1.cell? ⟨w.heap.size, 2, none⟩ = some c ∧ w1.cell? ⟨w.heap.size + 1, 0, none⟩ = some d ∧ w1.cell? ⟨w.heap.size + 1, 1, none⟩ = some e ∧ w1.cell? ⟨w.heap.size + 1, 2, none⟩ = some f := by
  have h1 := below_boxP h
  obtain ⟨p0, p1, p2⟩ := pair_cells h1
  obtain ⟨q0, q1, q2⟩ := pair_cells h
  rw [World.size_alloc] at q0 q1 q2
  exact ⟨box_below h1, p0, p1, p2, q0, q1, q2⟩
where
  below_boxP {w w1 : World} {o : Obj} (h : Below (w.alloc o).heap.size (w.alloc o) w1) : Below w.heap.size w w1 := box_below h

set_option maxHeartbeats 4000000 in
theorem implCheck (W H : Int) (C : ByteArray) (S G : List Int) (T M : Int) (Ws : List (List Int)) (vs vg v : Value) (c : Nat) (hC : C.size ≤ 1048576) (hSl : S.length ≤ 2000000) (hG : G.length ≤ 2000000) (hW : Ws.length ≤ 2000000) (hT : totW Ws ≤ 2000000) (HX : Hid (planV W H C S G T M Ws = c)) (w : World) (hs : Ints w vs S) (hg : Ints w vg G) (hv : WaysAt w v Ws) (hSd : SidesAt w) :
    Calls Tryz.prog 39 #[.agg #[.int .i64 W, .int .i64 H, .string C], vs, vg, .agg #[.int .i64 T, .int .i64 M, v]] w (Made w (errV c)) := by
  obtain ⟨a, HA⟩ : ∃ a, Hid (askV W H C S G T = a) := ⟨_, rfl⟩
  have hB := Below.refl ((w.alloc (.cells #[.int .i64 W, .int .i64 H, .string C] 25)).alloc (.cells #[.int .i64 T, .int .i64 M, v] 29)).heap.size ((w.alloc (.cells #[.int .i64 W, .int .i64 H, .string C] 25)).alloc (.cells #[.int .i64 T, .int .i64 M, v] 29))
  have HB0 := Lib.hid hB
  have HAC : Hid (∀ wr, Below w.heap.size w wr → Calls Tryz.prog 46 #[.agg #[.int .i64 W, .int .i64 H, .string C], vs, vg, .int .i64 T] wr (Made wr (.bool a))) := Lib.hid fun wr hb => implAsk W H C S G T vs vg a hC hSl hG HA wr (ints_on hs hb) (ints_on hg hb)
  have HSS := Lib.hid hs
  have HGG := Lib.hid hg
  have HVV := Lib.hid hv
  have HT := Lib.hid hT
  have HSD := Lib.hid hSd
  obtain ⟨hb, c0, c1, c2, p0, p1, p2⟩ := two_cells hB
  obtain ⟨as1, cs, rfl, _⟩ := ints_form hs
  obtain ⟨ag, cg, rfl, _⟩ := ints_form hg
  obtain ⟨av, cv, rfl, _⟩ := hv
  clear hs hg hT hSd hB hb
  cases a with
  | false =>
    obtain rfl : c = 1 := by rw [← HX.out]; unfold planV; rw [HA.out]; rfl
    go_enter Tryz.func39, Tryz.ntmps39
    go_wp2_with fail
    refine (HAC.out _ (two_cells HB0.out).1).mono ?_
    rintro e w1 ⟨rfl, hb⟩
    have hB1 := (two_cells (chain HB0.out hb)).1
    go_wp2_with fail
    go_ret
    exact ⟨rfl, hB1⟩
  | true =>
    obtain ⟨t, rfl, ht⟩ := ask_small HA.out
    obtain ⟨f, HF⟩ : ∃ f, Hid (formV S t Ws = f) := ⟨_, rfl⟩
    obtain ⟨s, HS⟩ : ∃ s, Hid (stepsV W H C Ws = s) := ⟨_, rfl⟩
    obtain ⟨x, HCR⟩ : ∃ x, Hid (crossV Ws t = x) := ⟨_, rfl⟩
    have HXX : Hid ((if f = false then 2 else if s = false then 3 else if x = 0 then endV G M Ws else x) = c) := Lib.hid (by
      rw [← HX.out, plan_ask HA.out, HF.out, HS.out, HCR.out])
    have HFC : Hid (∀ wr, Below w.heap.size w wr → Calls Tryz.prog 43 #[.slice as1 S.length cs, .int .i64 (t : Int), .slice av Ws.length cv] wr (Made wr (.bool f))) := Lib.hid fun wr hb => implForm _ _ S Ws t f ht hSl HT.out HF wr (ints_on HSS.out hb) (waysAt_on HVV.out hb)
    have HSC : Hid (∀ wr, Below w.heap.size w wr → Calls Tryz.prog 79 #[.agg #[.int .i64 W, .int .i64 H, .string C], .slice av Ws.length cv] wr (Made wr (.bool s))) := Lib.hid fun wr hb => implStepsOk W H C _ Ws s hC hW HT.out HS wr (waysAt_on HVV.out hb) (HSD.out.below hb)
    have HXC : Hid (∀ wr, Below w.heap.size w wr → Calls Tryz.prog 80 #[.agg #[.int .i64 (t : Int), .int .i64 M, .slice av Ws.length cv]] wr (Made wr (errV x))) := Lib.hid fun wr hb => implCross _ Ws t M x ht hW HT.out HCR wr (waysAt_on HVV.out hb)
    have HEC : Hid (∀ wr, Below w.heap.size w wr → ∀ y, endV G M Ws = y → Calls Tryz.prog 81 #[.slice ag G.length cg, .agg #[.int .i64 (t : Int), .int .i64 M, .slice av Ws.length cv]] wr (Made wr (errV y))) := Lib.hid fun wr hb y hy => implEnd _ _ G Ws (t : Int) M y hG hW HT.out (Lib.hid hy) wr (ints_on HGG.out hb) (waysAt_on HVV.out hb)
    go_enter Tryz.func39, Tryz.ntmps39
    go_wp2_with fail
    refine (HAC.out _ (two_cells HB0.out).1).mono ?_
    rintro e w1 ⟨rfl, hb⟩
    have HB1 := Lib.hid (chain HB0.out hb)
    clear c0 c1 c2 p0 p1 p2 hb HB0 HAC
    obtain ⟨_, c0, c1, c2, p0, p1, p2⟩ := two_cells HB1.out
    go_wp2_with fail
    refine (HFC.out _ (two_cells HB1.out).1).mono ?_
    rintro e w2 ⟨rfl, hb⟩
    have HB2 := Lib.hid (HB1.out.trans (hb.mono HB1.out.size))
    clear c0 c1 c2 p0 p1 p2 hb HB1 HFC
    cases f with
    | false =>
      obtain rfl : c = 2 := HXX.out.symm
      go_wp2_with fail
      go_ret
      exact ⟨rfl, (two_cells HB2.out).1⟩
    | true =>
      obtain ⟨_, c0, c1, c2, p0, p1, p2⟩ := two_cells HB2.out
      go_wp2_with fail
      refine (HSC.out _ (two_cells HB2.out).1).mono ?_
      rintro e w3 ⟨rfl, hb⟩
      have HB3 := Lib.hid (HB2.out.trans (hb.mono HB2.out.size))
      clear c0 c1 c2 p0 p1 p2 hb HB2 HSC
      cases s with
      | false =>
        obtain rfl : c = 3 := HXX.out.symm
        go_wp2_with fail
        go_ret
        exact ⟨rfl, (two_cells HB3.out).1⟩
      | true =>
        obtain ⟨_, c0, c1, c2, p0, p1, p2⟩ := two_cells HB3.out
        go_wp2_with fail
        refine (HXC.out _ (two_cells HB3.out).1).mono ?_
        rintro e w4 ⟨rfl, hb⟩
        have HB4 := Lib.hid (HB3.out.trans (hb.mono HB3.out.size))
        clear c0 c1 c2 p0 p1 p2 hb HB3 HXC
        by_cases hx : x = 0
        · subst hx
          have HEX : Hid (endV G M Ws = c) := Lib.hid HXX.out
          rw [errV_zero]
          obtain ⟨_, c0, c1, c2, p0, p1, p2⟩ := two_cells HB4.out
          go_wp2_with fail
          refine (HEC.out _ (two_cells HB4.out).1 c HEX.out).mono ?_
          rintro e w5 ⟨rfl, hb⟩
          have HB5 := Lib.hid (HB4.out.trans (hb.mono HB4.out.size))
          clear c0 c1 c2 p0 p1 p2 hb
          go_wp2_with fail
          go_ret
          exact ⟨rfl, (two_cells HB5.out).1⟩
        · have e : x = c := by have := HXX.out; simpa [hx] using this
          subst e
          rw [errV_pos hx]
          have HBx := Lib.hid (errV_pos hx)
          go_wp2_with fail
          go_ret
          exact ⟨by rw [HBx.out]; rfl, (two_cells HB4.out).1⟩

/-- What errors.As leaves: the variable holds the fault. -/
theorem as_left {w : World} {g : Nat} {c : Int} {o1 o2 o3 o4 : Obj} (h : w.heap[g]? = some (.cells #[.int .i64 0] 62)) :
    (((((w.alloc o1).alloc o2).alloc o3).alloc o4).setCell ⟨g, 0, none⟩ (.int .i64 c)).cell? ⟨g, 0, none⟩ = some (.int .i64 c) ∧ ∀ B, B ≤ g → Below B w (((((w.alloc o1).alloc o2).alloc o3).alloc o4).setCell ⟨g, 0, none⟩ (.int .i64 c)) := by
  have hg := (Array.getElem?_eq_some_iff.1 h).1
  have b := ((((Below.refl w.heap.size w).alloc (Nat.le_refl _) o1).alloc (by simp) o2).alloc (by simp; omega) o3).alloc (by simp; omega) o4
  have h2 := (b.block g hg).trans h
  constructor
  · rw [cell_of_row _ _ _ _ _ _ (heap_setCell_same _ g 0 _ _ _ h2)]
    rfl
  · intro B hB
    exact (b.mono (by omega)).setCell hB _

set_option maxHeartbeats 4000000 in
theorem implPlanFault (W H : Int) (C : ByteArray) (S G : List Int) (T M : Int) (Ws : List (List Int)) (vs vg v : Value) (c : Nat) (hC : C.size ≤ 1048576) (hSl : S.length ≤ 2000000) (hG : G.length ≤ 2000000) (hW : Ws.length ≤ 2000000) (hT : totW Ws ≤ 2000000) (HX : Hid (planV W H C S G T M Ws = c)) (w : World) (hs : Ints w vs S) (hg : Ints w vg G) (hv : WaysAt w v Ws) (hSd : SidesAt w) (hE : ErrAt w) :
    Calls Tryz.prog 15 #[.agg #[.int .i64 W, .int .i64 H, .string C], vs, vg, .agg #[.int .i64 T, .int .i64 M, v]] w (Made w (.int .i64 (c : Int))) := by
  have hb2 := Below.refl ((w.alloc (.cells #[.int .i64 W, .int .i64 H, .string C] 25)).alloc (.cells #[.int .i64 T, .int .i64 M, v] 29)).heap.size ((w.alloc (.cells #[.int .i64 W, .int .i64 H, .string C] 25)).alloc (.cells #[.int .i64 T, .int .i64 M, v] 29))
  obtain ⟨hb0, _⟩ := two_cells hb2
  have hb3 := hb2.alloc (Nat.le_refl _) (.cells #[.int .i64 0] 62)
  obtain ⟨hbw, c0, c1, c2, p0, p1, p2⟩ := two_cells hb3
  have hsz : ((w.alloc (.cells #[.int .i64 W, .int .i64 H, .string C] 25)).alloc (.cells #[.int .i64 T, .int .i64 M, v] 29)).heap.size = w.heap.size + 2 := by rw [World.size_alloc, World.size_alloc]
  have hsz3 : (((w.alloc (.cells #[.int .i64 W, .int .i64 H, .string C] 25)).alloc (.cells #[.int .i64 T, .int .i64 M, v] 29)).alloc (.cells #[.int .i64 0] 62)).heap.size = w.heap.size + 3 := by rw [World.size_alloc, hsz]
  have hn3 : (((w.alloc (.cells #[.int .i64 W, .int .i64 H, .string C] 25)).alloc (.cells #[.int .i64 T, .int .i64 M, v] 29)).alloc (.cells #[.int .i64 0] 62)).heap[w.heap.size + 2]? = some (.cells #[.int .i64 0] 62) := by
    have := heap_alloc_new ((w.alloc (.cells #[.int .i64 W, .int .i64 H, .string C] 25)).alloc (.cells #[.int .i64 T, .int .i64 M, v] 29)) (.cells #[.int .i64 0] 62)
    rwa [hsz] at this
  have HCK := Lib.hid (implCheck W H C S G T M Ws vs vg v c hC hSl hG hW hT HX _ (ints_on hs hbw) (ints_on hg hbw) (waysAt_on hv hbw) (hSd.below hbw))
  have HBW := Lib.hid hbw
  have HN3 := Lib.hid hn3
  have HSZ3 := Lib.hid hsz3
  have HE := Lib.hid hE
  obtain ⟨as1, cs, rfl, _⟩ := ints_form hs
  obtain ⟨ag, cg, rfl, _⟩ := ints_form hg
  obtain ⟨av, cv, rfl, _⟩ := hv
  clear hT hs hg hSd hE hb2 hb0 hb3 hbw hsz hsz3 hn3
  go_enter Tryz.func15, Tryz.ntmps15
  go_wp2_with fail
  refine HCK.out.mono ?_
  rintro e w4 ⟨rfl, hb⟩
  have HB4 := Lib.hid (HBW.out.trans (hb.mono HBW.out.size))
  have h4 := (hb.block (w.heap.size + 2) (by rw [HSZ3.out]; omega)).trans HN3.out
  have HN4 := Lib.hid h4
  have HE4 := Lib.hid (HE.out.below HB4.out)
  obtain ⟨q0, f0⟩ := old_one hb HN3.out
  clear c0 c1 c2 p0 p1 p2 hb HN3 HCK h4 HBW HSZ3
  by_cases hc : c = 0
  · subst hc
    rw [errV_zero]
    go_wp2_with fail
    refine (asNone _ _).mono ?_
    rintro e w5 ⟨rfl, rfl⟩
    go_wp2_with fail
    go_ret
    exact ⟨rfl, HB4.out⟩
  · rw [errV_pos hc]
    clear hc
    go_wp2_with fail
    refine (asHit (c : Int) ⟨w.heap.size + 2, 0, none⟩ _ w4 HE4.out q0 f0).mono ?_
    rintro e w5 ⟨rfl, rfl⟩
    obtain ⟨hq, hbb⟩ := as_left (c := (c : Int)) HN4.out (o1 := .cells #[.pointer (some ⟨w.heap.size + 2, 0, none⟩)] 67) (o2 := .cells #[.pointer (some ⟨2, 67, none⟩), .pointer (some ⟨w4.heap.size, 0, none⟩), .int .u64 150] 114) (o3 := .cells #[.pointer (some ⟨2, 67, none⟩), .pointer (some ⟨w4.heap.size, 0, none⟩), .int .u64 150] 114) (o4 := .cells #[.int .i64 (c : Int)] 62)
    have HBB := Lib.hid (HB4.out.trans (hbb w.heap.size (by omega)))
    clear hbb q0 f0
    go_wp2_with fail
    go_ret
    exact ⟨rfl, HBB.out⟩

end Go.Proofs.YtkbfbifepaoojaaGreatDoor

