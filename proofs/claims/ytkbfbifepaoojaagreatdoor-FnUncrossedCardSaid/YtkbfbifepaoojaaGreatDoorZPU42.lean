/-
  THE LAW FnUncrossed: uncrossed, the ways of a drawn plan stand on the same cells at each time, cross nowhere, and have as many moves less as went round; with them the plan has no fault. A tied card: where the listed variables hold what their initialisers laid.
-/
import Derived.Test.YtkbfbifepaoojaaGreatDoorZPU20
import Derived.Test.YtkbfbifepaoojaaGreatDoorZPU31
import Derived.Test.YtkbfbifepaoojaaGreatDoorZPU32
import Derived.Test.YtkbfbifepaoojaaGreatDoorZPU34
import Derived.Test.YtkbfbifepaoojaaGreatDoorZPU37
import Derived.Test.YtkbfbifepaoojaaGreatDoorZPU38
import Derived.Test.YtkbfbifepaoojaaGreatDoorZPU40
import Derived.Test.YtkbfbifepaoojaaGreatDoorZPU29
import Derived.Test.YtkbfbifepaoojaaGreatDoorZPU41
import Derived.Deep.CutRange
import Derived.Deep.DeepCutAuto
import Derived.Deep.RegionHeld3
import Derived.IntWalk
import Derived.Lib.SmallJoins
import Derived.Test.YtkbfbifepaoojaaGreatDoorCards
import Derived.Test.YtkbfbifepaoojaaGreatDoorTie
import Derived.SevenTiedAt
namespace Go.Proofs.YtkbfbifepaoojaaGreatDoor.fnUncrossed
set_option maxRecDepth 4096
open Go.ChangeShapes Go.WideShapes Go.ChangeAt Go.RowKit Go.Joins
open Go.ChangeMaps (open_string shut_string)

theorem bigYes (N g : Nat) (v : Value) (w : World) (hN : N ≤ maxLen) (hc : CodeB w v N g) (h : 1048576 < N) : Calls Tryz.prog 6 #[v] w fun e w' => e = .returned (.bool true) ∧ w = w' := by
  obtain ⟨a, c, rfl, _⟩ := hc
  have hN2 : N ≤ 9223372036854775807 := by unfold maxLen at hN; omega
  have hd : (1048576 : Int) < (N : Int) := by omega
  go_enter Tryz.func6, Tryz.ntmps6
  go_wp2
  go_ret
  exact ⟨rfl, rfl⟩
theorem bigNo (N g : Nat) (v : Value) (w : World) (hc : CodeB w v N g) (h : N ≤ 1048576) : Calls Tryz.prog 6 #[v] w fun e w' => e = .returned (.bool false) ∧ w = w' := by
  obtain ⟨a, c, rfl, _⟩ := hc
  have hd : ¬ (1048576 : Int) < (N : Int) := by omega
  go_enter Tryz.func6, Tryz.ntmps6
  go_wp2
  go_ret
  exact ⟨rfl, rfl⟩

/-- The box of the map, the box of the plan. -/
def Bx (a b : Nat) (C : ByteArray) (T n : Nat) (vW : Value) (X P : Nat) (w : World) : Prop :=
  (w.cell? ⟨X, 0, none⟩ = some (.int .i64 a) ∧ w.cell? ⟨X, 1, none⟩ = some (.int .i64 b) ∧ w.cell? ⟨X, 2, none⟩ = some (.string C)) ∧ (w.cell? ⟨P, 0, none⟩ = some (.int .i64 (T : Int)) ∧ w.cell? ⟨P, 1, none⟩ = some (.int .i64 (n : Int)) ∧ w.cell? ⟨P, 2, none⟩ = some vW)
theorem bx_on {a b : Nat} {C : ByteArray} {T n : Nat} {vW : Value} {X P : Nat} {w w' : World} (h : Bx a b C T n vW X P w) (hX : X < w.heap.size) (hP : P < w.heap.size) (hb : Below w.heap.size w w') : Bx a b C T n vW X P w' := by
  obtain ⟨⟨c0, c1, c2⟩, p0, p1, p2⟩ := h
  exact ⟨⟨(hb.cell (p := ⟨X, 0, none⟩) hX).trans c0, (hb.cell (p := ⟨X, 1, none⟩) hX).trans c1, (hb.cell (p := ⟨X, 2, none⟩) hX).trans c2⟩, (hb.cell (p := ⟨P, 0, none⟩) hP).trans p0, (hb.cell (p := ⟨P, 1, none⟩) hP).trans p1, (hb.cell (p := ⟨P, 2, none⟩) hP).trans p2⟩
theorem own_not {w : World} {B s n Q : Nat} {e t : TypeId} {v : Value} {xs : List Value} {cs : Array Value} {fr : Nat × Nat} (h : w.ownsRow B e s v n xs) (hq : w.heap[Q]? = some (.cells cs t fr)) (he : e ≠ t) : v.ownBlock = none ∨ v.ownBlock ≠ some Q := by
  rcases h.2 with ⟨rfl, _⟩ | ⟨g, cap, cur, rfl, _, hg, _⟩
  · exact .inl rfl
  · refine .inr fun e2 => ?_
    have e3 : g = Q := Option.some.inj e2
    subst e3
    rw [hg] at hq
    injection Option.some.inj hq with _ h2 _
    exact he h2
theorem out_set {w : World} {B Q j : Nat} {x u : Value} {ty : TypeId} {vs : List Value} {LL : List (List Int)} {cs : Array Value} {fr : Nat × Nat} (h : OutW w B x vs LL) (hq : w.heap[Q]? = some (.cells cs ty fr)) (h1 : 51 ≠ ty) (h2 : 3 ≠ ty) : OutW (w.setCell ⟨Q, j, none⟩ u) B x vs LL :=
  ⟨h.own.kept (set_grown w Q j u) (own_not h.own hq h1), h.rows.kept (set_grown w Q j u) fun i y hy => own_not (h.rows.row i y (LL[i]'(by rw [← h.rows.len]; exact (List.getElem?_eq_some_iff.1 hy).1)) hy (List.getElem?_eq_getElem _)) hq h2⟩
theorem out_set3 {w : World} {B Q : Nat} {x u0 u1 u2 c0 c1 c2 : Value} {vs : List Value} {LL : List (List Int)} (h : OutW w B x vs LL) (hq : w.heap[Q]? = some (.cells #[c0, c1, c2] 29 (0, 0))) : OutW (set3 w Q u0 u1 u2) B x vs LL :=
  out_set (out_set (out_set h hq (by decide) (by decide)) (heap_setCell_same _ _ 0 _ _ u0 hq) (by decide) (by decide)) (heap_setCell_same _ _ 1 _ _ u1 (heap_setCell_same _ _ 0 _ _ u0 hq)) (by decide) (by decide)
theorem set3_below {w w1 : World} {B R : Nat} {u0 u1 u2 : Value} (h : Below B w w1) (hR : B ≤ R) : Below B w (set3 w1 R u0 u1 u2) :=
  ((h.setCell (p := ⟨R, 0, none⟩) hR u0).setCell (p := ⟨R, 1, none⟩) hR u1).setCell (p := ⟨R, 2, none⟩) hR u2
theorem plan_ask {a b : Nat} {C : ByteArray} {S G : List Int} {T : Nat} {Ws : List (List Int)} (h : PlanD a b C S G T Ws) : askV a b C S G (T : Int) = true := by
  have hff : (freeL a b C).length ≤ 12 := Nat.le_trans (picks_len _ _) (Nat.le_trans (Nat.min_le_left _ _) h.few)
  have hf : (freeL a b C).length * (T + 1) ≤ 12 * 6 := Nat.mul_le_mul hff (by have := h.t5; omega)
  have hf2 : ((freeL a b C).length : Int) * ((T : Int) + 1) ≤ 240 := by
    have : (((freeL a b C).length * (T + 1) : Nat) : Int) ≤ 240 := by omega
    simpa using this
  have hfree : ∀ (t i : Nat) (L : List Int) (x : Int), Ws[i]? = some L → L[t]? = some x → freeV a b C x = true := by
    intro t
    induction t with
    | zero =>
      intro i L x hL hx
      have hi : i < S.length := by rw [← h.walk.len]; exact (List.getElem?_eq_some_iff.1 hL).1
      have hc : S[i]? = some S[i] := List.getElem?_eq_getElem hi
      have := h.walk.start i L _ hL hc
      rw [hx] at this
      rw [Option.some.inj this]
      exact ((asc_iff.1 h.sa) i _ hi hc).1
    | succ t ih =>
      intro i L x hL hx
      have htl := (List.getElem?_eq_some_iff.1 hx).1
      have hy : L[t]? = some (L[t]'(by omega)) := List.getElem?_eq_getElem (by omega)
      rcases h.walk.step i L t _ x hL hy hx with e | e
      · rw [e]
        exact ih i L _ hL hy
      · exact (mem_around.1 e).2.1
  have hmem : ∀ d ∈ lastsL Ws, freeV a b C d = true := fun d hd => by
    unfold lastsL at hd
    obtain ⟨L, hL, hdL⟩ := List.mem_flatMap.1 hd
    obtain ⟨i, hi, rfl⟩ := List.getElem_of_mem hL
    have hLi : Ws[i]? = some Ws[i] := List.getElem?_eq_getElem hi
    obtain ⟨t, ht⟩ := List.mem_iff_getElem?.1 (List.mem_of_mem_drop hdL)
    exact hfree t i _ d hLi ht
  have hga : ascV a b C G = true := asc_yes fun i x hi hx => ⟨hmem x (once_mem.1 (h.gm x (List.mem_of_getElem? hx))), fun y h0 hy => by
    obtain ⟨h1, e1⟩ := List.getElem?_eq_some_iff.1 hx
    obtain ⟨h2, e2⟩ := List.getElem?_eq_some_iff.1 hy
    rw [← e1, ← e2]
    exact List.pairwise_iff_getElem.1 h.gu (i - 1) i h2 h1 (by omega)⟩
  have hgl : G.length ≤ S.length := by
    have hn : G.Nodup := h.gu.imp fun h => by omega
    have h1 := nodup_subP (Y := lastsL Ws) hn fun d hd => once_mem.1 (h.gm d hd)
    have key : ∀ X : List (List Int), (lastsL X).length ≤ X.length := fun X => by
      induction X with
      | nil => exact Nat.le_refl _
      | cons L X ih =>
        unfold lastsL at ih ⊢
        rw [List.flatMap_cons, List.length_append, List.length_cons]
        have : (lastOf L).length ≤ 1 := by unfold lastOf; rw [List.length_drop]; omega
        omega
    have h2 := key Ws
    have h3 := h.walk.len
    omega
  have h1 := h.s1
  have h5 := h.s5
  have ht := h.t5
  unfold askV rgB
  rw [h.ok, h.sa, hga]
  simp only [Bool.true_and, Bool.and_eq_true, decide_eq_true_eq]
  exact ⟨by omega, by omega, by omega, hf2⟩
theorem plan_goals {a b : Nat} {C : ByteArray} {S G : List Int} {T : Nat} {Ws : List (List Int)} (h : PlanD a b C S G T Ws) : G.length ≤ 30 := by
  have hn : G.Nodup := h.gu.imp fun h => by omega
  have := nodup_subP hn h.gm
  have h2 := once_len (lastsL Ws)
  have h3 := lasts_len Ws
  have h4 := walk_tot h.walk h.s5 h.t5
  omega
theorem unc_fault {a b : Nat} {C : ByteArray} {S G : List Int} {T : Nat} {Ws : List (List Int)} (h : PlanD a b C S G T Ws) : planV a b C S G (T : Int) (movesW (uncV Ws) : Int) (uncV Ws) = 0 := by
  have h1 := h.s1
  have h10 : S.length ≤ 10 := by have := h.s5; omega
  have hk := plan_ask h
  have hG : ∀ d ∈ G, d ∈ lastsL (uncV Ws) := fun d hd => (unc_ends h.walk h1 h10 d).2 (once_mem.1 (h.gm d hd))
  have hr := walk_reg h.walk h1 h10
  have hw := walk_wide h.walk h1
  rw [walk_plan (walk_unc h.walk h1 h10) h1 h10 hk hG]
  have e1 : anyT (fun t => decide (0 < swapsV (uncV Ws) (t : Int))) T = false := anyT_no fun t ht => by
    show decide (0 < swapsV (uncV Ws) (t : Int)) = false
    rw [(unc_swaps hr (t := t) (by omega)).1]
    rfl
  have e2 : anyT (fun t => decide (0 < ringsV (uncV Ws) (t : Int))) T = false := anyT_no fun t ht => by
    show decide (0 < ringsV (uncV Ws) (t : Int)) = false
    rw [(unc_swaps hr (t := t) (by omega)).2]
    rfl
  simp [e1, e2]

set_option maxHeartbeats 8000000 in
theorem walk_in (N : Nat) (v : Value) (hN : N ≤ 1048576) (w : World) (hc : CodeB w v N w.heap.size) (hs : SidesAt w) (he : ErrAt w) :
    Calls Tryz.prog 3 #[v] w fun e w' => e = .returned (.bool true) ∧ Below w.heap.size w w' := by
  have HSd := Lib.hid hs
  have HEr := Lib.hid he
  clear hs he
  go_enter Tryz.func3, Tryz.ntmps3
  go_wp2_with fail
  refine (bigNo N _ v w hc hN).mono ?_
  rintro e w' ⟨rfl, rfl⟩
  go_wp2_with fail
  refine (drawWalk N v w (by omega) hc).mono ?_
  rintro e w1 ⟨a, b, C, S, G, T, Ws, x, y, vW, vs, rfl, hD, hx, hy, hO, hB⟩
  have hvl := hO.rows.len
  obtain ⟨ax, cx, rfl⟩ := own_form hx
  obtain ⟨ay, cy, rfl⟩ := own_form hy
  obtain ⟨aW, cW, rfl⟩ := own_form hO.own
  rw [hvl] at hO ⊢
  obtain ⟨n, HN⟩ : ∃ n, Hid (movesW Ws = n) := ⟨_, rfl⟩
  rw [HN.out]
  have HD := Lib.hid hD
  have hn30 : n ≤ 30 := by rw [← HN.out]; exact Nat.le_trans (movesW_le Ws) (walk_tot hD.walk hD.s5 hD.t5)
  have hT5 := hD.t5
  have hWl : Ws.length ≤ 5 := by rw [hD.walk.len]; exact hD.s5
  have HTW : Hid (totW Ws ≤ 30) := Lib.hid (walk_tot hD.walk hD.s5 hD.t5)
  have HC : Hid (C.size ≤ 1048576) := Lib.hid (by have := hD.few; omega)
  have hGl : G.length ≤ 30 := plan_goals hD
  have hSl : S.length ≤ 5 := hD.s5
  have bA := (Below.refl _ w1).alloc (Nat.le_refl _) (.cells #[.int .i64 a, .int .i64 b, .string C] 25)
  have bB := (Below.refl _ (w1.alloc (.cells #[.int .i64 a, .int .i64 b, .string C] 25))).alloc (Nat.le_refl _) (.cells #[.int .i64 (T : Int), .int .i64 (n : Int), .slice aW Ws.length cW] 29)
  have hr0 := (bB.block w1.heap.size (by simp)).trans (heap_alloc_new w1 (.cells #[.int .i64 a, .int .i64 b, .string C] 25))
  have hr1 := heap_alloc_new (w1.alloc (.cells #[.int .i64 a, .int .i64 b, .string C] 25)) (.cells #[.int .i64 (T : Int), .int .i64 (n : Int), .slice aW Ws.length cW] 29)
  rw [World.size_alloc] at hr1
  have b3 := bA.trans (bB.mono bA.size)
  obtain ⟨w3, hw3⟩ : ∃ w3, w3 = (w1.alloc (.cells #[.int .i64 a, .int .i64 b, .string C] 25)).alloc (.cells #[.int .i64 (T : Int), .int .i64 (n : Int), .slice aW Ws.length cW] 29) := ⟨_, rfl⟩
  rw [← hw3] at hr0 hr1 b3
  have HBx : Hid (Bx a b C T n (.slice aW Ws.length cW) w1.heap.size (w1.heap.size + 1) w3) := Lib.hid ⟨(row3 hr0).1, (row3 hr1).1⟩
  have hX := (Array.getElem?_eq_some_iff.1 hr0).1
  have hP := (Array.getElem?_eq_some_iff.1 hr1).1
  have HS := Lib.hid (ints_on (ints_of_own hx) b3)
  have HG := Lib.hid (ints_on (ints_of_own hy) b3)
  have HW := Lib.hid (waysAt_on hO.at b3)
  have HB3 := Lib.hid (hB.trans (b3.mono hB.size))
  have HCP : Hid (∀ wr, Below w3.heap.size w3 wr → Calls Tryz.prog 9 #[.slice aW Ws.length cW] wr (OutBack wr Ws)) := Lib.hid fun wr hb => lawCopied _ Ws (by omega) (by have := HTW.out; omega) wr (waysAt_on HW.out hb)
  have HW3 := Lib.hid hw3
  clear hc hx hy hO hB bA bB hr0 hr1 b3 hw3 hvl hD
  have hreg := walk_reg HD.out.walk HD.out.s1 (by have := HD.out.s5; omega)
  have hwid := walk_wide HD.out.walk HD.out.s1
  obtain ⟨U, HU⟩ : ∃ U, Hid (uncV Ws = U) := ⟨_, rfl⟩
  have HUL : Hid (U.length = Ws.length) := Lib.hid (by rw [← HU.out]; exact unc_len)
  have HUT : Hid (totW U ≤ 30) := Lib.hid (by rw [← HU.out]; exact walk_tot (walk_unc HD.out.walk HD.out.s1 (by have := HD.out.s5; omega)) HD.out.s5 HD.out.t5)
  have HR1 : Hid (regV Ws = true) := Lib.hid hreg
  have HR2 : Hid (regV U = true) := Lib.hid (by rw [← HU.out]; exact unc_reg hreg)
  have HV1 : Hid (resV Ws = U) := Lib.hid (by rw [← HU.out]; exact if_pos hreg)
  have HV2 : Hid (resV U = U) := Lib.hid (by rw [← HU.out]; exact (if_pos (unc_reg hreg)).trans (unc_unc hreg))
  obtain ⟨k, HK1⟩ : ∃ k, Hid (crossN Ws T = k) := ⟨_, rfl⟩
  have HX1 : Hid (crossV13 Ws = (k : Int)) := Lib.hid (by unfold crossV13; rw [if_pos hreg, hwid, Nat.add_sub_cancel, HK1.out])
  have HX2 : Hid (crossV13 U = ((0 : Nat) : Int)) := Lib.hid (by rw [← HU.out]; unfold crossV13; rw [if_pos (unc_reg hreg), unc_cross hreg (by rw [unc_wide (by have := HD.out.walk.len; have := HD.out.s1; omega), hwid]; omega)])
  have HSM : Hid (sameV U Ws = true) := Lib.hid (by rw [← HU.out]; exact unc_same hreg)
  obtain ⟨m, HM⟩ : ∃ m, Hid (movesW U = m) := ⟨_, rfl⟩
  have HMN : Hid (m + k = n) := Lib.hid (by rw [← HM.out, ← HU.out, ← HK1.out, ← HN.out]; have := unc_moves hreg; rw [hwid, Nat.add_sub_cancel] at this; exact this)
  clear hreg hwid
  have hUl : U.length ≤ 5 := by rw [HUL.out]; exact hWl
  have HPF : Hid (∀ (vs vg vq : Value) wr, Ints wr vs S → Ints wr vg G → WaysAt wr vq U → Below w3.heap.size w3 wr → Calls Tryz.prog 15 #[.agg #[.int .i64 a, .int .i64 b, .string C], vs, vg, .agg #[.int .i64 (T : Int), .int .i64 (m : Int), vq]] wr (Made wr (.int .i64 ((0 : Nat) : Int)))) := Lib.hid fun vs vg vq wr h1 h2 h3 hb => by
    have hbw := HB3.out.trans (hb.mono HB3.out.size)
    exact implPlanFault a b C S G T m U vs vg vq 0 HC.out (by omega) (by omega) (by omega) (by have := HUT.out; omega) (Lib.hid (by rw [← HM.out, ← HU.out]; exact unc_fault HD.out)) wr h1 h2 h3 (HSd.out.below hbw) (HEr.out.below hbw)
  obtain ⟨⟨c0, c1, c2⟩, p0, p1, p2⟩ := HBx.out
  go_upto_region 4 with fail
  rw [← HW3.out]
  go_wp2_with fail
  refine (HCP.out _ (Below.refl _ _)).mono ?_
  rintro e x1 ⟨v1, vs1, rfl, ho1, hb1⟩
  obtain ⟨a1, d1, rfl⟩ := own_form ho1.own
  have H1 := Lib.hid ho1.at
  have HB4 := Lib.hid hb1
  clear ho1 hb1
  go_wp2_with fail
  refine (implUncrossed _ Ws true U (by omega) (by have := HTW.out; omega) HR1 HV1 _ H1.out).mono ?_
  rintro e x2 ⟨vU, rfl, hU, hb⟩
  obtain ⟨aU, dU, rfl⟩ := hU.form
  have HU2 := Lib.hid hU.at
  have HB5 := Lib.hid (HB4.out.trans (hb.mono HB4.out.size))
  clear hU hb c0 c1 c2 p0 p1 p2
  obtain ⟨⟨c0, c1, c2⟩, p0, p1, p2⟩ := bx_on HBx.out hX hP HB5.out
  go_wp2_with fail
  refine (HCP.out _ HB5.out).mono ?_
  rintro e x3 ⟨v3, vs3, rfl, ho3, hb3⟩
  obtain ⟨a3, d3, rfl⟩ := own_form ho3.own
  have H3 := Lib.hid ho3.at
  have HB6 := Lib.hid (HB5.out.trans (hb3.mono HB5.out.size))
  have HU3 := Lib.hid (waysAt_on HU2.out hb3)
  clear ho3 hb3
  go_wp2_with fail
  refine (implCrossings _ Ws (k : Int) (by omega) (by have := HTW.out; omega) HX1 _ H3.out).mono ?_
  rintro e x4 ⟨rfl, hb⟩
  have HB7 := Lib.hid (HB6.out.trans (hb.mono HB6.out.size))
  have HU4 := Lib.hid (waysAt_on HU3.out hb)
  clear hb
  go_wp2_with fail
  refine (lawCopied _ U (by omega) (by have := HUT.out; omega) _ HU4.out).mono ?_
  rintro e x5 ⟨v5, vs5, rfl, ho5, hb5⟩
  obtain ⟨a5, d5, rfl⟩ := own_form ho5.own
  have H5 := Lib.hid ho5.at
  have HB8 := Lib.hid (HB7.out.trans (hb5.mono HB7.out.size))
  have HU5 := Lib.hid (waysAt_on HU4.out hb5)
  clear ho5 hb5
  go_wp2_with fail
  refine (implUncrossed _ U true U (by omega) (by have := HUT.out; omega) HR2 HV2 _ H5.out).mono ?_
  rintro e x6 ⟨vV, rfl, hV, hb⟩
  obtain ⟨aV, dV, rfl⟩ := hV.form
  have HVV := Lib.hid hV.at
  have HB9 := Lib.hid (HB8.out.trans (hb.mono HB8.out.size))
  have HUU := Lib.hid (waysAt_on HU5.out hb)
  clear hV hb c0 c1 c2 p0 p1 p2 H1 H3 H5 HU2 HU3 HU4 HU5 HB4 HB5 HB6 HB7 HB8
  have HCU : Hid (∀ wr, Below x6.heap.size x6 wr → Calls Tryz.prog 9 #[.slice aU U.length dU] wr (OutBack wr U)) := Lib.hid fun wr hb => lawCopied _ U (by omega) (by have := HUT.out; omega) wr (waysAt_on HUU.out hb)
  have HCW : Hid (∀ wr, Below x6.heap.size x6 wr → Calls Tryz.prog 9 #[.slice aW Ws.length cW] wr (OutBack wr Ws)) := Lib.hid fun wr hb => HCP.out wr (HB9.out.trans (hb.mono HB9.out.size))
  have hk0 : ¬ (k : Int) < 0 := by omega
  have hkk : ((k : Int) != (k : Int)) = false := by simp
  have hmm : ((m : Int) != (m : Int)) = false := by simp
  have hmn := HMN.out
  have hsub : IntKind.i64.wrap ((n : Int) - (k : Int)) = (m : Int) := by rw [IntWalk.i64_in _ (by omega)]; omega
  clear hmn
  go_upto_region 7 with fail
  refine wp_region_inv2 (fun jj v w' => match jj with | 0 => v = .bool true | 1 => v = .bool false | 2 => v = .bool false | 3 => v = .bool true | 4 => v = .bool false | 5 => v = .bool false | 6 => v = .bool false | 7 => v = .int .i64 (k : Int) | 8 => v = .bool false | 9 => v = .bool false | 10 => v = .bool false | 11 => v = .int .i64 (k : Int) | 12 => v = .pointer (some ⟨w1.heap.size + 1, 2, none⟩) | 13 => v = .slice aW Ws.length cW | 14 => v = .int .i64 (k : Int) | 15 => v = .bool false | 16 => v = .bool false | 17 => v = .bool false | 18 => v = .slice aU U.length dU | 19 => WaysAt w' v U | 20 => v = .int .i64 ((0 : Nat) : Int) | 21 => v = .bool false | 22 => v = .bool false | 23 => v = .bool false | 24 => v = .slice aU U.length dU | 25 => v = .slice aV U.length dV | 26 => v = .bool true | 27 => v = .bool false | 28 => v = .bool false | 29 => v = .bool false | 30 => v = .slice aU U.length dU | 31 => WaysAt w' v U | 32 => v = .pointer (some ⟨w1.heap.size + 1, 2, none⟩) | 33 => v = .slice aW Ws.length cW | 34 => WaysAt w' v Ws | 35 => v = .bool true | 36 => v = .bool false | 37 => v = .bool false | 38 => v = .bool false | 39 => v = .slice aU U.length dU | 40 => WaysAt w' v U | 41 => v = .int .i64 (m : Int) | 42 => v = .pointer (some ⟨w1.heap.size + 1, 2, none⟩) | 43 => v = .slice aW Ws.length cW | 44 => WaysAt w' v Ws | 45 => v = .int .i64 (n : Int) | 46 => v = .int .i64 (k : Int) | 47 => v = .int .i64 (m : Int) | 48 => v = .bool false | 49 => v = .bool false | _ => True) (fun w' => Below x6.heap.size x6 w') (by as_aux_lemma => kernel_rfl) (by as_aux_lemma => kernel_rfl) (below_drewN (Below.refl _ _) 1) ?mono (fun mk hmk => ?main)
  case mono =>
    intro j v wa wb h hb
    match j, h with
    | 0, h => exact h
    | 1, h => exact h
    | 2, h => exact h
    | 3, h => exact h
    | 4, h => exact h
    | 5, h => exact h
    | 6, h => exact h
    | 7, h => exact h
    | 8, h => exact h
    | 9, h => exact h
    | 10, h => exact h
    | 11, h => exact h
    | 12, h => exact h
    | 13, h => exact h
    | 14, h => exact h
    | 15, h => exact h
    | 16, h => exact h
    | 17, h => exact h
    | 18, h => exact h
    | 19, h => exact waysAt_on h hb
    | 20, h => exact h
    | 21, h => exact h
    | 22, h => exact h
    | 23, h => exact h
    | 24, h => exact h
    | 25, h => exact h
    | 26, h => exact h
    | 27, h => exact h
    | 28, h => exact h
    | 29, h => exact h
    | 30, h => exact h
    | 31, h => exact waysAt_on h hb
    | 32, h => exact h
    | 33, h => exact h
    | 34, h => exact waysAt_on h hb
    | 35, h => exact h
    | 36, h => exact h
    | 37, h => exact h
    | 38, h => exact h
    | 39, h => exact h
    | 40, h => exact waysAt_on h hb
    | 41, h => exact h
    | 42, h => exact h
    | 43, h => exact h
    | 44, h => exact waysAt_on h hb
    | 45, h => exact h
    | 46, h => exact h
    | 47, h => exact h
    | 48, h => exact h
    | 49, h => exact h
    | k + 50, h => exact trivial
  case main =>
    simp only [putsL, Nat.reduceAdd, Act.put, List.setIfInBounds_toArray, List.set_cons_zero, List.set_cons_succ] at hmk
    subst hmk
    refine ⟨⟨fun _ => undef, rfl⟩, fun i hi => ?_, fun V wz hSz hFz => ?_⟩
    · have hi2 : i < 50 := hi
      have hcase : i = 0 ∨ i = 1 ∨ i = 2 ∨ i = 3 ∨ i = 4 ∨ i = 5 ∨ i = 6 ∨ i = 7 ∨ i = 8 ∨ i = 9 ∨ i = 10 ∨ i = 11 ∨ i = 12 ∨ i = 13 ∨ i = 14 ∨ i = 15 ∨ i = 16 ∨ i = 17 ∨ i = 18 ∨ i = 19 ∨ i = 20 ∨ i = 21 ∨ i = 22 ∨ i = 23 ∨ i = 24 ∨ i = 25 ∨ i = 26 ∨ i = 27 ∨ i = 28 ∨ i = 29 ∨ i = 30 ∨ i = 31 ∨ i = 32 ∨ i = 33 ∨ i = 34 ∨ i = 35 ∨ i = 36 ∨ i = 37 ∨ i = 38 ∨ i = 39 ∨ i = 40 ∨ i = 41 ∨ i = 42 ∨ i = 43 ∨ i = 44 ∨ i = 45 ∨ i = 46 ∨ i = 47 ∨ i = 48 ∨ i = 49 := by omega
      clear hi hi2
      rcases hcase with rfl | rfl | rfl | rfl | rfl | rfl | rfl | rfl | rfl | rfl | rfl | rfl | rfl | rfl | rfl | rfl | rfl | rfl | rfl | rfl | rfl | rfl | rfl | rfl | rfl | rfl | rfl | rfl | rfl | rfl | rfl | rfl | rfl | rfl | rfl | rfl | rfl | rfl | rfl | rfl | rfl | rfl | rfl | rfl | rfl | rfl | rfl | rfl | rfl | rfl
      · intro V wz hSz hd
        clear hd
        refine wpOp_step (o := _) rfl (fun K' hK => ?_)
        have HK := Lib.hid hK
        clear hK
        have HSz := Lib.hid hSz
        have hz3 := HB9.out.trans (hSz.mono HB9.out.size)
        obtain ⟨⟨c0, c1, c2⟩, p0, p1, p2⟩ := bx_on HBx.out hX hP hz3
        have HZ3 := Lib.hid hz3
        clear hz3
        clear hSz
        simp only [List.getElem_toArray, List.getElem_cons_zero]
        go_simp
        exact HK.out _ _ ⟨.bool true, rfl, rfl, HSz.out, Below.refl _ _⟩
      · intro V wz hSz hd
        have f0 := hd _ rfl ⟨0, .data⟩ (by simp) rfl
        clear hd
        have f0 : V 0 = .bool true := f0
        refine wpOp_step (o := _) rfl (fun K' hK => ?_)
        have HK := Lib.hid hK
        clear hK
        have HSz := Lib.hid hSz
        have hz3 := HB9.out.trans (hSz.mono HB9.out.size)
        obtain ⟨⟨c0, c1, c2⟩, p0, p1, p2⟩ := bx_on HBx.out hX hP hz3
        have HZ3 := Lib.hid hz3
        clear hz3
        clear hSz
        simp only [List.getElem_toArray, List.getElem_cons_succ, List.getElem_cons_zero]
        go_simp
        exact HK.out _ _ ⟨.bool false, by simp [updV, f0], rfl, HSz.out, Below.refl _ _⟩
      · intro V wz hSz hd
        have f1 := hd _ rfl ⟨1, .data⟩ (by simp) rfl
        clear hd
        have f1 : V 1 = .bool false := f1
        refine wpOp_step (o := _) rfl (fun K' hK => ?_)
        have HK := Lib.hid hK
        clear hK
        have HSz := Lib.hid hSz
        have hz3 := HB9.out.trans (hSz.mono HB9.out.size)
        obtain ⟨⟨c0, c1, c2⟩, p0, p1, p2⟩ := bx_on HBx.out hX hP hz3
        have HZ3 := Lib.hid hz3
        clear hz3
        clear hSz
        simp only [List.getElem_toArray, List.getElem_cons_succ, List.getElem_cons_zero]
        go_simp
        exact HK.out _ _ ⟨.bool false, by simp [updV, f1], rfl, HSz.out, Below.refl _ _⟩
      · intro V wz hSz hd
        have f2 := hd _ rfl ⟨2, .guard⟩ (by simp) rfl
        clear hd
        have f2 : V 2 = .bool false := f2
        refine wpOp_step (o := _) rfl (fun K' hK => ?_)
        have HK := Lib.hid hK
        clear hK
        have HSz := Lib.hid hSz
        have hz3 := HB9.out.trans (hSz.mono HB9.out.size)
        obtain ⟨⟨c0, c1, c2⟩, p0, p1, p2⟩ := bx_on HBx.out hX hP hz3
        have HZ3 := Lib.hid hz3
        clear hz3
        clear hSz
        simp only [List.getElem_toArray, List.getElem_cons_succ, List.getElem_cons_zero]
        go_simp
        exact HK.out _ _ ⟨.bool true, by simp [updV, f2], rfl, HSz.out, Below.refl _ _⟩
      · intro V wz hSz hd
        have f3 := hd _ rfl ⟨3, .data⟩ (by simp) rfl
        have f2 := hd _ rfl ⟨2, .guard⟩ (by simp) rfl
        clear hd
        have f3 : V 3 = .bool true := f3
        have f2 : V 2 = .bool false := f2
        refine wpOp_step (o := _) rfl (fun K' hK => ?_)
        have HK := Lib.hid hK
        clear hK
        have HSz := Lib.hid hSz
        have hz3 := HB9.out.trans (hSz.mono HB9.out.size)
        obtain ⟨⟨c0, c1, c2⟩, p0, p1, p2⟩ := bx_on HBx.out hX hP hz3
        have HZ3 := Lib.hid hz3
        clear hz3
        clear hSz
        simp only [List.getElem_toArray, List.getElem_cons_succ, List.getElem_cons_zero]
        go_simp
        exact HK.out _ _ ⟨.bool false, by simp [updV, f3, f2], rfl, HSz.out, Below.refl _ _⟩
      · intro V wz hSz hd
        have f2 := hd _ rfl ⟨2, .data⟩ (by simp) rfl
        have f4 := hd _ rfl ⟨4, .data⟩ (by simp) rfl
        clear hd
        have f2 : V 2 = .bool false := f2
        have f4 : V 4 = .bool false := f4
        refine wpOp_step (o := _) rfl (fun K' hK => ?_)
        have HK := Lib.hid hK
        clear hK
        have HSz := Lib.hid hSz
        have hz3 := HB9.out.trans (hSz.mono HB9.out.size)
        obtain ⟨⟨c0, c1, c2⟩, p0, p1, p2⟩ := bx_on HBx.out hX hP hz3
        have HZ3 := Lib.hid hz3
        clear hz3
        clear hSz
        simp only [List.getElem_toArray, List.getElem_cons_succ, List.getElem_cons_zero]
        go_simp
        exact HK.out _ _ ⟨.bool false, by simp [updV, f2, f4], rfl, HSz.out, Below.refl _ _⟩
      · intro V wz hSz hd
        have f5 := hd _ rfl ⟨5, .data⟩ (by simp) rfl
        clear hd
        have f5 : V 5 = .bool false := f5
        refine wpOp_step (o := _) rfl (fun K' hK => ?_)
        have HK := Lib.hid hK
        clear hK
        have HSz := Lib.hid hSz
        have hz3 := HB9.out.trans (hSz.mono HB9.out.size)
        obtain ⟨⟨c0, c1, c2⟩, p0, p1, p2⟩ := bx_on HBx.out hX hP hz3
        have HZ3 := Lib.hid hz3
        clear hz3
        clear hSz
        simp only [List.getElem_toArray, List.getElem_cons_succ, List.getElem_cons_zero]
        go_simp
        exact HK.out _ _ ⟨.bool false, by simp [updV, f5], rfl, HSz.out, Below.refl _ _⟩
      · intro V wz hSz hd
        have f6 := hd _ rfl ⟨6, .guard⟩ (by simp) rfl
        clear hd
        have f6 : V 6 = .bool false := f6
        refine wpOp_step (o := _) rfl (fun K' hK => ?_)
        have HK := Lib.hid hK
        clear hK
        have HSz := Lib.hid hSz
        have hz3 := HB9.out.trans (hSz.mono HB9.out.size)
        obtain ⟨⟨c0, c1, c2⟩, p0, p1, p2⟩ := bx_on HBx.out hX hP hz3
        have HZ3 := Lib.hid hz3
        clear hz3
        clear hSz
        simp only [List.getElem_toArray, List.getElem_cons_succ, List.getElem_cons_zero]
        go_simp
        exact HK.out _ _ ⟨.int .i64 (k : Int), by simp [updV, f6], rfl, HSz.out, Below.refl _ _⟩
      · intro V wz hSz hd
        have f7 := hd _ rfl ⟨7, .data⟩ (by simp) rfl
        have f6 := hd _ rfl ⟨6, .guard⟩ (by simp) rfl
        clear hd
        have f7 : V 7 = .int .i64 (k : Int) := f7
        have f6 : V 6 = .bool false := f6
        refine wpOp_step (o := _) rfl (fun K' hK => ?_)
        have HK := Lib.hid hK
        clear hK
        have HSz := Lib.hid hSz
        have hz3 := HB9.out.trans (hSz.mono HB9.out.size)
        obtain ⟨⟨c0, c1, c2⟩, p0, p1, p2⟩ := bx_on HBx.out hX hP hz3
        have HZ3 := Lib.hid hz3
        clear hz3
        clear hSz
        simp only [List.getElem_toArray, List.getElem_cons_succ, List.getElem_cons_zero]
        go_simp
        exact HK.out _ _ ⟨.bool false, by simp [updV, f7, f6, hk0], rfl, HSz.out, Below.refl _ _⟩
      · intro V wz hSz hd
        have f6 := hd _ rfl ⟨6, .data⟩ (by simp) rfl
        have f8 := hd _ rfl ⟨8, .data⟩ (by simp) rfl
        clear hd
        have f6 : V 6 = .bool false := f6
        have f8 : V 8 = .bool false := f8
        refine wpOp_step (o := _) rfl (fun K' hK => ?_)
        have HK := Lib.hid hK
        clear hK
        have HSz := Lib.hid hSz
        have hz3 := HB9.out.trans (hSz.mono HB9.out.size)
        obtain ⟨⟨c0, c1, c2⟩, p0, p1, p2⟩ := bx_on HBx.out hX hP hz3
        have HZ3 := Lib.hid hz3
        clear hz3
        clear hSz
        simp only [List.getElem_toArray, List.getElem_cons_succ, List.getElem_cons_zero]
        go_simp
        exact HK.out _ _ ⟨.bool false, by simp [updV, f6, f8], rfl, HSz.out, Below.refl _ _⟩
      · intro V wz hSz hd
        have f9 := hd _ rfl ⟨9, .data⟩ (by simp) rfl
        clear hd
        have f9 : V 9 = .bool false := f9
        refine wpOp_step (o := _) rfl (fun K' hK => ?_)
        have HK := Lib.hid hK
        clear hK
        have HSz := Lib.hid hSz
        have hz3 := HB9.out.trans (hSz.mono HB9.out.size)
        obtain ⟨⟨c0, c1, c2⟩, p0, p1, p2⟩ := bx_on HBx.out hX hP hz3
        have HZ3 := Lib.hid hz3
        clear hz3
        clear hSz
        simp only [List.getElem_toArray, List.getElem_cons_succ, List.getElem_cons_zero]
        go_simp
        exact HK.out _ _ ⟨.bool false, by simp [updV, f9], rfl, HSz.out, Below.refl _ _⟩
      · intro V wz hSz hd
        have f10 := hd _ rfl ⟨10, .guard⟩ (by simp) rfl
        clear hd
        have f10 : V 10 = .bool false := f10
        refine wpOp_step (o := _) rfl (fun K' hK => ?_)
        have HK := Lib.hid hK
        clear hK
        have HSz := Lib.hid hSz
        have hz3 := HB9.out.trans (hSz.mono HB9.out.size)
        obtain ⟨⟨c0, c1, c2⟩, p0, p1, p2⟩ := bx_on HBx.out hX hP hz3
        have HZ3 := Lib.hid hz3
        clear hz3
        clear hSz
        simp only [List.getElem_toArray, List.getElem_cons_succ, List.getElem_cons_zero]
        go_simp
        exact HK.out _ _ ⟨.int .i64 (k : Int), by simp [updV, f10], rfl, HSz.out, Below.refl _ _⟩
      · intro V wz hSz hd
        have f10 := hd _ rfl ⟨10, .guard⟩ (by simp) rfl
        clear hd
        have f10 : V 10 = .bool false := f10
        refine wpOp_step (o := _) rfl (fun K' hK => ?_)
        have HK := Lib.hid hK
        clear hK
        have HSz := Lib.hid hSz
        have hz3 := HB9.out.trans (hSz.mono HB9.out.size)
        obtain ⟨⟨c0, c1, c2⟩, p0, p1, p2⟩ := bx_on HBx.out hX hP hz3
        have HZ3 := Lib.hid hz3
        clear hz3
        clear hSz
        simp only [List.getElem_toArray, List.getElem_cons_succ, List.getElem_cons_zero]
        go_simp
        exact HK.out _ _ ⟨.pointer (some ⟨w1.heap.size + 1, 2, none⟩), by simp [updV, f10], rfl, HSz.out, Below.refl _ _⟩
      · intro V wz hSz hd
        have f12 := hd _ rfl ⟨12, .data⟩ (by simp) rfl
        have f10 := hd _ rfl ⟨10, .guard⟩ (by simp) rfl
        clear hd
        have f12 : V 12 = .pointer (some ⟨w1.heap.size + 1, 2, none⟩) := f12
        have f10 : V 10 = .bool false := f10
        refine wpOp_step (o := _) rfl (fun K' hK => ?_)
        have HK := Lib.hid hK
        clear hK
        have HSz := Lib.hid hSz
        have hz3 := HB9.out.trans (hSz.mono HB9.out.size)
        obtain ⟨⟨c0, c1, c2⟩, p0, p1, p2⟩ := bx_on HBx.out hX hP hz3
        have HZ3 := Lib.hid hz3
        clear hz3
        clear hSz
        simp only [List.getElem_toArray, List.getElem_cons_succ, List.getElem_cons_zero]
        go_simp
        exact HK.out _ _ ⟨.slice aW Ws.length cW, by simp [updV, f12, f10], rfl, HSz.out, Below.refl _ _⟩
      · intro V wz hSz hd
        have f13 := hd _ rfl ⟨13, .data⟩ (by simp) rfl
        have f10 := hd _ rfl ⟨10, .guard⟩ (by simp) rfl
        clear hd
        have f13 : V 13 = .slice aW Ws.length cW := f13
        have f10 : V 10 = .bool false := f10
        refine wpOp_step (o := _) rfl (fun K' hK => ?_)
        have HK := Lib.hid hK
        clear hK
        have HSz := Lib.hid hSz
        have hz3 := HB9.out.trans (hSz.mono HB9.out.size)
        obtain ⟨⟨c0, c1, c2⟩, p0, p1, p2⟩ := bx_on HBx.out hX hP hz3
        have HZ3 := Lib.hid hz3
        clear hz3
        simp only [List.getElem_toArray, List.getElem_cons_succ, List.getElem_cons_zero]
        go_simp
        go_at_call 11
        refine (specCrossings _ Ws (k : Int) (by omega) (by have := HTW.out; omega) HX1 wz (waysAt_on HW.out HZ3.out)).mono ?_
        rintro e w9 ⟨rfl, hb9⟩
        exact HK.out _ _ ⟨.int .i64 (k : Int), by simp [updV, f13, f10], rfl, hSz.trans (hb9.mono hSz.size), hb9⟩
      · intro V wz hSz hd
        have f11 := hd _ rfl ⟨11, .data⟩ (by simp) rfl
        have f14 := hd _ rfl ⟨14, .data⟩ (by simp) rfl
        have f10 := hd _ rfl ⟨10, .guard⟩ (by simp) rfl
        clear hd
        have f11 : V 11 = .int .i64 (k : Int) := f11
        have f14 : V 14 = .int .i64 (k : Int) := f14
        have f10 : V 10 = .bool false := f10
        refine wpOp_step (o := _) rfl (fun K' hK => ?_)
        have HK := Lib.hid hK
        clear hK
        have HSz := Lib.hid hSz
        have hz3 := HB9.out.trans (hSz.mono HB9.out.size)
        obtain ⟨⟨c0, c1, c2⟩, p0, p1, p2⟩ := bx_on HBx.out hX hP hz3
        have HZ3 := Lib.hid hz3
        clear hz3
        clear hSz
        simp only [List.getElem_toArray, List.getElem_cons_succ, List.getElem_cons_zero]
        go_simp
        exact HK.out _ _ ⟨.bool false, by simp [updV, f11, f14, f10], rfl, HSz.out, Below.refl _ _⟩
      · intro V wz hSz hd
        have f10 := hd _ rfl ⟨10, .data⟩ (by simp) rfl
        have f15 := hd _ rfl ⟨15, .data⟩ (by simp) rfl
        clear hd
        have f10 : V 10 = .bool false := f10
        have f15 : V 15 = .bool false := f15
        refine wpOp_step (o := _) rfl (fun K' hK => ?_)
        have HK := Lib.hid hK
        clear hK
        have HSz := Lib.hid hSz
        have hz3 := HB9.out.trans (hSz.mono HB9.out.size)
        obtain ⟨⟨c0, c1, c2⟩, p0, p1, p2⟩ := bx_on HBx.out hX hP hz3
        have HZ3 := Lib.hid hz3
        clear hz3
        clear hSz
        simp only [List.getElem_toArray, List.getElem_cons_succ, List.getElem_cons_zero]
        go_simp
        exact HK.out _ _ ⟨.bool false, by simp [updV, f10, f15], rfl, HSz.out, Below.refl _ _⟩
      · intro V wz hSz hd
        have f16 := hd _ rfl ⟨16, .data⟩ (by simp) rfl
        clear hd
        have f16 : V 16 = .bool false := f16
        refine wpOp_step (o := _) rfl (fun K' hK => ?_)
        have HK := Lib.hid hK
        clear hK
        have HSz := Lib.hid hSz
        have hz3 := HB9.out.trans (hSz.mono HB9.out.size)
        obtain ⟨⟨c0, c1, c2⟩, p0, p1, p2⟩ := bx_on HBx.out hX hP hz3
        have HZ3 := Lib.hid hz3
        clear hz3
        clear hSz
        simp only [List.getElem_toArray, List.getElem_cons_succ, List.getElem_cons_zero]
        go_simp
        exact HK.out _ _ ⟨.bool false, by simp [updV, f16], rfl, HSz.out, Below.refl _ _⟩
      · intro V wz hSz hd
        have f17 := hd _ rfl ⟨17, .guard⟩ (by simp) rfl
        clear hd
        have f17 : V 17 = .bool false := f17
        refine wpOp_step (o := _) rfl (fun K' hK => ?_)
        have HK := Lib.hid hK
        clear hK
        have HSz := Lib.hid hSz
        have hz3 := HB9.out.trans (hSz.mono HB9.out.size)
        obtain ⟨⟨c0, c1, c2⟩, p0, p1, p2⟩ := bx_on HBx.out hX hP hz3
        have HZ3 := Lib.hid hz3
        clear hz3
        clear hSz
        simp only [List.getElem_toArray, List.getElem_cons_succ, List.getElem_cons_zero]
        go_simp
        exact HK.out _ _ ⟨.slice aU U.length dU, by simp [updV, f17], rfl, HSz.out, Below.refl _ _⟩
      · intro V wz hSz hd
        have f18 := hd _ rfl ⟨18, .data⟩ (by simp) rfl
        have f17 := hd _ rfl ⟨17, .guard⟩ (by simp) rfl
        clear hd
        have f18 : V 18 = .slice aU U.length dU := f18
        have f17 : V 17 = .bool false := f17
        refine wpOp_step (o := _) rfl (fun K' hK => ?_)
        have HK := Lib.hid hK
        clear hK
        have HSz := Lib.hid hSz
        have hz3 := HB9.out.trans (hSz.mono HB9.out.size)
        obtain ⟨⟨c0, c1, c2⟩, p0, p1, p2⟩ := bx_on HBx.out hX hP hz3
        have HZ3 := Lib.hid hz3
        clear hz3
        simp only [List.getElem_toArray, List.getElem_cons_succ, List.getElem_cons_zero]
        go_simp
        go_at_call 9
        refine (HCU.out wz hSz).mono ?_
        rintro e w9 ⟨v9, vs9, rfl, ho9, hb9⟩
        exact HK.out _ _ ⟨v9, by simp [updV, f18, f17], ho9.at, hSz.trans (hb9.mono hSz.size), hb9⟩
      · intro V wz hSz hd
        have f19 := hd _ rfl ⟨19, .data⟩ (by simp) rfl
        have f17 := hd _ rfl ⟨17, .guard⟩ (by simp) rfl
        clear hd
        have g19 : WaysAt wz (V 19) U := f19
        have HG19 := Lib.hid g19
        obtain ⟨a19, c19, f19, _⟩ := g19
        have f17 : V 17 = .bool false := f17
        refine wpOp_step (o := _) rfl (fun K' hK => ?_)
        have HK := Lib.hid hK
        clear hK
        have HSz := Lib.hid hSz
        have hz3 := HB9.out.trans (hSz.mono HB9.out.size)
        obtain ⟨⟨c0, c1, c2⟩, p0, p1, p2⟩ := bx_on HBx.out hX hP hz3
        have HZ3 := Lib.hid hz3
        clear hz3
        simp only [List.getElem_toArray, List.getElem_cons_succ, List.getElem_cons_zero]
        go_simp
        go_at_call 10
        refine (implCrossings _ U ((0 : Nat) : Int) (by omega) (by have := HUT.out; omega) HX2 wz (by rw [← f19]; exact HG19.out)).mono ?_
        rintro e w9 ⟨rfl, hb9⟩
        exact HK.out _ _ ⟨.int .i64 ((0 : Nat) : Int), by simp [updV, f19, f17], rfl, hSz.trans (hb9.mono hSz.size), hb9⟩
      · intro V wz hSz hd
        have f20 := hd _ rfl ⟨20, .data⟩ (by simp) rfl
        have f17 := hd _ rfl ⟨17, .guard⟩ (by simp) rfl
        clear hd
        have f20 : V 20 = .int .i64 ((0 : Nat) : Int) := f20
        have f17 : V 17 = .bool false := f17
        refine wpOp_step (o := _) rfl (fun K' hK => ?_)
        have HK := Lib.hid hK
        clear hK
        have HSz := Lib.hid hSz
        have hz3 := HB9.out.trans (hSz.mono HB9.out.size)
        obtain ⟨⟨c0, c1, c2⟩, p0, p1, p2⟩ := bx_on HBx.out hX hP hz3
        have HZ3 := Lib.hid hz3
        clear hz3
        clear hSz
        simp only [List.getElem_toArray, List.getElem_cons_succ, List.getElem_cons_zero]
        go_simp
        exact HK.out _ _ ⟨.bool false, by simp [updV, f20, f17], rfl, HSz.out, Below.refl _ _⟩
      · intro V wz hSz hd
        have f17 := hd _ rfl ⟨17, .data⟩ (by simp) rfl
        have f21 := hd _ rfl ⟨21, .data⟩ (by simp) rfl
        clear hd
        have f17 : V 17 = .bool false := f17
        have f21 : V 21 = .bool false := f21
        refine wpOp_step (o := _) rfl (fun K' hK => ?_)
        have HK := Lib.hid hK
        clear hK
        have HSz := Lib.hid hSz
        have hz3 := HB9.out.trans (hSz.mono HB9.out.size)
        obtain ⟨⟨c0, c1, c2⟩, p0, p1, p2⟩ := bx_on HBx.out hX hP hz3
        have HZ3 := Lib.hid hz3
        clear hz3
        clear hSz
        simp only [List.getElem_toArray, List.getElem_cons_succ, List.getElem_cons_zero]
        go_simp
        exact HK.out _ _ ⟨.bool false, by simp [updV, f17, f21], rfl, HSz.out, Below.refl _ _⟩
      · intro V wz hSz hd
        have f22 := hd _ rfl ⟨22, .data⟩ (by simp) rfl
        clear hd
        have f22 : V 22 = .bool false := f22
        refine wpOp_step (o := _) rfl (fun K' hK => ?_)
        have HK := Lib.hid hK
        clear hK
        have HSz := Lib.hid hSz
        have hz3 := HB9.out.trans (hSz.mono HB9.out.size)
        obtain ⟨⟨c0, c1, c2⟩, p0, p1, p2⟩ := bx_on HBx.out hX hP hz3
        have HZ3 := Lib.hid hz3
        clear hz3
        clear hSz
        simp only [List.getElem_toArray, List.getElem_cons_succ, List.getElem_cons_zero]
        go_simp
        exact HK.out _ _ ⟨.bool false, by simp [updV, f22], rfl, HSz.out, Below.refl _ _⟩
      · intro V wz hSz hd
        have f23 := hd _ rfl ⟨23, .guard⟩ (by simp) rfl
        clear hd
        have f23 : V 23 = .bool false := f23
        refine wpOp_step (o := _) rfl (fun K' hK => ?_)
        have HK := Lib.hid hK
        clear hK
        have HSz := Lib.hid hSz
        have hz3 := HB9.out.trans (hSz.mono HB9.out.size)
        obtain ⟨⟨c0, c1, c2⟩, p0, p1, p2⟩ := bx_on HBx.out hX hP hz3
        have HZ3 := Lib.hid hz3
        clear hz3
        clear hSz
        simp only [List.getElem_toArray, List.getElem_cons_succ, List.getElem_cons_zero]
        go_simp
        exact HK.out _ _ ⟨.slice aU U.length dU, by simp [updV, f23], rfl, HSz.out, Below.refl _ _⟩
      · intro V wz hSz hd
        have f23 := hd _ rfl ⟨23, .guard⟩ (by simp) rfl
        clear hd
        have f23 : V 23 = .bool false := f23
        refine wpOp_step (o := _) rfl (fun K' hK => ?_)
        have HK := Lib.hid hK
        clear hK
        have HSz := Lib.hid hSz
        have hz3 := HB9.out.trans (hSz.mono HB9.out.size)
        obtain ⟨⟨c0, c1, c2⟩, p0, p1, p2⟩ := bx_on HBx.out hX hP hz3
        have HZ3 := Lib.hid hz3
        clear hz3
        clear hSz
        simp only [List.getElem_toArray, List.getElem_cons_succ, List.getElem_cons_zero]
        go_simp
        exact HK.out _ _ ⟨.slice aV U.length dV, by simp [updV, f23], rfl, HSz.out, Below.refl _ _⟩
      · intro V wz hSz hd
        have f24 := hd _ rfl ⟨24, .data⟩ (by simp) rfl
        have f25 := hd _ rfl ⟨25, .data⟩ (by simp) rfl
        have f23 := hd _ rfl ⟨23, .guard⟩ (by simp) rfl
        clear hd
        have f24 : V 24 = .slice aU U.length dU := f24
        have f25 : V 25 = .slice aV U.length dV := f25
        have f23 : V 23 = .bool false := f23
        refine wpOp_step (o := _) rfl (fun K' hK => ?_)
        have HK := Lib.hid hK
        clear hK
        have HSz := Lib.hid hSz
        have hz3 := HB9.out.trans (hSz.mono HB9.out.size)
        obtain ⟨⟨c0, c1, c2⟩, p0, p1, p2⟩ := bx_on HBx.out hX hP hz3
        have HZ3 := Lib.hid hz3
        clear hz3
        simp only [List.getElem_toArray, List.getElem_cons_succ, List.getElem_cons_zero]
        go_simp
        go_at_call 12
        refine (sameWaysC _ _ U wz (waysAt_on HUU.out hSz) (waysAt_on HVV.out hSz) (by omega) (fun L hL => by obtain ⟨i, hi, rfl⟩ := List.getElem_of_mem hL; have := totW_one (List.getElem?_eq_getElem hi); have := HUT.out; omega)).mono ?_
        rintro e w9 ⟨rfl, hb9⟩
        exact HK.out _ _ ⟨.bool true, by simp [updV, f24, f25, f23], rfl, hSz.trans (hb9.mono hSz.size), hb9⟩
      · intro V wz hSz hd
        have f26 := hd _ rfl ⟨26, .data⟩ (by simp) rfl
        have f23 := hd _ rfl ⟨23, .guard⟩ (by simp) rfl
        clear hd
        have f26 : V 26 = .bool true := f26
        have f23 : V 23 = .bool false := f23
        refine wpOp_step (o := _) rfl (fun K' hK => ?_)
        have HK := Lib.hid hK
        clear hK
        have HSz := Lib.hid hSz
        have hz3 := HB9.out.trans (hSz.mono HB9.out.size)
        obtain ⟨⟨c0, c1, c2⟩, p0, p1, p2⟩ := bx_on HBx.out hX hP hz3
        have HZ3 := Lib.hid hz3
        clear hz3
        clear hSz
        simp only [List.getElem_toArray, List.getElem_cons_succ, List.getElem_cons_zero]
        go_simp
        exact HK.out _ _ ⟨.bool false, by simp [updV, f26, f23], rfl, HSz.out, Below.refl _ _⟩
      · intro V wz hSz hd
        have f23 := hd _ rfl ⟨23, .data⟩ (by simp) rfl
        have f27 := hd _ rfl ⟨27, .data⟩ (by simp) rfl
        clear hd
        have f23 : V 23 = .bool false := f23
        have f27 : V 27 = .bool false := f27
        refine wpOp_step (o := _) rfl (fun K' hK => ?_)
        have HK := Lib.hid hK
        clear hK
        have HSz := Lib.hid hSz
        have hz3 := HB9.out.trans (hSz.mono HB9.out.size)
        obtain ⟨⟨c0, c1, c2⟩, p0, p1, p2⟩ := bx_on HBx.out hX hP hz3
        have HZ3 := Lib.hid hz3
        clear hz3
        clear hSz
        simp only [List.getElem_toArray, List.getElem_cons_succ, List.getElem_cons_zero]
        go_simp
        exact HK.out _ _ ⟨.bool false, by simp [updV, f23, f27], rfl, HSz.out, Below.refl _ _⟩
      · intro V wz hSz hd
        have f28 := hd _ rfl ⟨28, .data⟩ (by simp) rfl
        clear hd
        have f28 : V 28 = .bool false := f28
        refine wpOp_step (o := _) rfl (fun K' hK => ?_)
        have HK := Lib.hid hK
        clear hK
        have HSz := Lib.hid hSz
        have hz3 := HB9.out.trans (hSz.mono HB9.out.size)
        obtain ⟨⟨c0, c1, c2⟩, p0, p1, p2⟩ := bx_on HBx.out hX hP hz3
        have HZ3 := Lib.hid hz3
        clear hz3
        clear hSz
        simp only [List.getElem_toArray, List.getElem_cons_succ, List.getElem_cons_zero]
        go_simp
        exact HK.out _ _ ⟨.bool false, by simp [updV, f28], rfl, HSz.out, Below.refl _ _⟩
      · intro V wz hSz hd
        have f29 := hd _ rfl ⟨29, .guard⟩ (by simp) rfl
        clear hd
        have f29 : V 29 = .bool false := f29
        refine wpOp_step (o := _) rfl (fun K' hK => ?_)
        have HK := Lib.hid hK
        clear hK
        have HSz := Lib.hid hSz
        have hz3 := HB9.out.trans (hSz.mono HB9.out.size)
        obtain ⟨⟨c0, c1, c2⟩, p0, p1, p2⟩ := bx_on HBx.out hX hP hz3
        have HZ3 := Lib.hid hz3
        clear hz3
        clear hSz
        simp only [List.getElem_toArray, List.getElem_cons_succ, List.getElem_cons_zero]
        go_simp
        exact HK.out _ _ ⟨.slice aU U.length dU, by simp [updV, f29], rfl, HSz.out, Below.refl _ _⟩
      · intro V wz hSz hd
        have f30 := hd _ rfl ⟨30, .data⟩ (by simp) rfl
        have f29 := hd _ rfl ⟨29, .guard⟩ (by simp) rfl
        clear hd
        have f30 : V 30 = .slice aU U.length dU := f30
        have f29 : V 29 = .bool false := f29
        refine wpOp_step (o := _) rfl (fun K' hK => ?_)
        have HK := Lib.hid hK
        clear hK
        have HSz := Lib.hid hSz
        have hz3 := HB9.out.trans (hSz.mono HB9.out.size)
        obtain ⟨⟨c0, c1, c2⟩, p0, p1, p2⟩ := bx_on HBx.out hX hP hz3
        have HZ3 := Lib.hid hz3
        clear hz3
        simp only [List.getElem_toArray, List.getElem_cons_succ, List.getElem_cons_zero]
        go_simp
        go_at_call 9
        refine (HCU.out wz hSz).mono ?_
        rintro e w9 ⟨v9, vs9, rfl, ho9, hb9⟩
        exact HK.out _ _ ⟨v9, by simp [updV, f30, f29], ho9.at, hSz.trans (hb9.mono hSz.size), hb9⟩
      · intro V wz hSz hd
        have f29 := hd _ rfl ⟨29, .guard⟩ (by simp) rfl
        clear hd
        have f29 : V 29 = .bool false := f29
        refine wpOp_step (o := _) rfl (fun K' hK => ?_)
        have HK := Lib.hid hK
        clear hK
        have HSz := Lib.hid hSz
        have hz3 := HB9.out.trans (hSz.mono HB9.out.size)
        obtain ⟨⟨c0, c1, c2⟩, p0, p1, p2⟩ := bx_on HBx.out hX hP hz3
        have HZ3 := Lib.hid hz3
        clear hz3
        clear hSz
        simp only [List.getElem_toArray, List.getElem_cons_succ, List.getElem_cons_zero]
        go_simp
        exact HK.out _ _ ⟨.pointer (some ⟨w1.heap.size + 1, 2, none⟩), by simp [updV, f29], rfl, HSz.out, Below.refl _ _⟩
      · intro V wz hSz hd
        have f32 := hd _ rfl ⟨32, .data⟩ (by simp) rfl
        have f29 := hd _ rfl ⟨29, .guard⟩ (by simp) rfl
        clear hd
        have f32 : V 32 = .pointer (some ⟨w1.heap.size + 1, 2, none⟩) := f32
        have f29 : V 29 = .bool false := f29
        refine wpOp_step (o := _) rfl (fun K' hK => ?_)
        have HK := Lib.hid hK
        clear hK
        have HSz := Lib.hid hSz
        have hz3 := HB9.out.trans (hSz.mono HB9.out.size)
        obtain ⟨⟨c0, c1, c2⟩, p0, p1, p2⟩ := bx_on HBx.out hX hP hz3
        have HZ3 := Lib.hid hz3
        clear hz3
        clear hSz
        simp only [List.getElem_toArray, List.getElem_cons_succ, List.getElem_cons_zero]
        go_simp
        exact HK.out _ _ ⟨.slice aW Ws.length cW, by simp [updV, f32, f29], rfl, HSz.out, Below.refl _ _⟩
      · intro V wz hSz hd
        have f33 := hd _ rfl ⟨33, .data⟩ (by simp) rfl
        have f29 := hd _ rfl ⟨29, .guard⟩ (by simp) rfl
        clear hd
        have f33 : V 33 = .slice aW Ws.length cW := f33
        have f29 : V 29 = .bool false := f29
        refine wpOp_step (o := _) rfl (fun K' hK => ?_)
        have HK := Lib.hid hK
        clear hK
        have HSz := Lib.hid hSz
        have hz3 := HB9.out.trans (hSz.mono HB9.out.size)
        obtain ⟨⟨c0, c1, c2⟩, p0, p1, p2⟩ := bx_on HBx.out hX hP hz3
        have HZ3 := Lib.hid hz3
        clear hz3
        simp only [List.getElem_toArray, List.getElem_cons_succ, List.getElem_cons_zero]
        go_simp
        go_at_call 9
        refine (HCW.out wz hSz).mono ?_
        rintro e w9 ⟨v9, vs9, rfl, ho9, hb9⟩
        exact HK.out _ _ ⟨v9, by simp [updV, f33, f29], ho9.at, hSz.trans (hb9.mono hSz.size), hb9⟩
      · intro V wz hSz hd
        have f31 := hd _ rfl ⟨31, .data⟩ (by simp) rfl
        have f34 := hd _ rfl ⟨34, .data⟩ (by simp) rfl
        have f29 := hd _ rfl ⟨29, .guard⟩ (by simp) rfl
        clear hd
        have g31 : WaysAt wz (V 31) U := f31
        have HG31 := Lib.hid g31
        obtain ⟨a31, c31, f31, _⟩ := g31
        have g34 : WaysAt wz (V 34) Ws := f34
        have HG34 := Lib.hid g34
        obtain ⟨a34, c34, f34, _⟩ := g34
        have f29 : V 29 = .bool false := f29
        refine wpOp_step (o := _) rfl (fun K' hK => ?_)
        have HK := Lib.hid hK
        clear hK
        have HSz := Lib.hid hSz
        have hz3 := HB9.out.trans (hSz.mono HB9.out.size)
        obtain ⟨⟨c0, c1, c2⟩, p0, p1, p2⟩ := bx_on HBx.out hX hP hz3
        have HZ3 := Lib.hid hz3
        clear hz3
        simp only [List.getElem_toArray, List.getElem_cons_succ, List.getElem_cons_zero]
        go_simp
        go_at_call 13
        refine (implSame _ _ U Ws true (by omega) (by have := HUT.out; omega) (by omega) (by have := HTW.out; omega) HSM wz (by rw [← f31]; exact HG31.out) (by rw [← f34]; exact HG34.out)).mono ?_
        rintro e w9 ⟨rfl, hb9⟩
        exact HK.out _ _ ⟨.bool true, by simp [updV, f31, f34, f29], rfl, hSz.trans (hb9.mono hSz.size), hb9⟩
      · intro V wz hSz hd
        have f35 := hd _ rfl ⟨35, .data⟩ (by simp) rfl
        have f29 := hd _ rfl ⟨29, .guard⟩ (by simp) rfl
        clear hd
        have f35 : V 35 = .bool true := f35
        have f29 : V 29 = .bool false := f29
        refine wpOp_step (o := _) rfl (fun K' hK => ?_)
        have HK := Lib.hid hK
        clear hK
        have HSz := Lib.hid hSz
        have hz3 := HB9.out.trans (hSz.mono HB9.out.size)
        obtain ⟨⟨c0, c1, c2⟩, p0, p1, p2⟩ := bx_on HBx.out hX hP hz3
        have HZ3 := Lib.hid hz3
        clear hz3
        clear hSz
        simp only [List.getElem_toArray, List.getElem_cons_succ, List.getElem_cons_zero]
        go_simp
        exact HK.out _ _ ⟨.bool false, by simp [updV, f35, f29], rfl, HSz.out, Below.refl _ _⟩
      · intro V wz hSz hd
        have f29 := hd _ rfl ⟨29, .data⟩ (by simp) rfl
        have f36 := hd _ rfl ⟨36, .data⟩ (by simp) rfl
        clear hd
        have f29 : V 29 = .bool false := f29
        have f36 : V 36 = .bool false := f36
        refine wpOp_step (o := _) rfl (fun K' hK => ?_)
        have HK := Lib.hid hK
        clear hK
        have HSz := Lib.hid hSz
        have hz3 := HB9.out.trans (hSz.mono HB9.out.size)
        obtain ⟨⟨c0, c1, c2⟩, p0, p1, p2⟩ := bx_on HBx.out hX hP hz3
        have HZ3 := Lib.hid hz3
        clear hz3
        clear hSz
        simp only [List.getElem_toArray, List.getElem_cons_succ, List.getElem_cons_zero]
        go_simp
        exact HK.out _ _ ⟨.bool false, by simp [updV, f29, f36], rfl, HSz.out, Below.refl _ _⟩
      · intro V wz hSz hd
        have f37 := hd _ rfl ⟨37, .data⟩ (by simp) rfl
        clear hd
        have f37 : V 37 = .bool false := f37
        refine wpOp_step (o := _) rfl (fun K' hK => ?_)
        have HK := Lib.hid hK
        clear hK
        have HSz := Lib.hid hSz
        have hz3 := HB9.out.trans (hSz.mono HB9.out.size)
        obtain ⟨⟨c0, c1, c2⟩, p0, p1, p2⟩ := bx_on HBx.out hX hP hz3
        have HZ3 := Lib.hid hz3
        clear hz3
        clear hSz
        simp only [List.getElem_toArray, List.getElem_cons_succ, List.getElem_cons_zero]
        go_simp
        exact HK.out _ _ ⟨.bool false, by simp [updV, f37], rfl, HSz.out, Below.refl _ _⟩
      · intro V wz hSz hd
        have f38 := hd _ rfl ⟨38, .guard⟩ (by simp) rfl
        clear hd
        have f38 : V 38 = .bool false := f38
        refine wpOp_step (o := _) rfl (fun K' hK => ?_)
        have HK := Lib.hid hK
        clear hK
        have HSz := Lib.hid hSz
        have hz3 := HB9.out.trans (hSz.mono HB9.out.size)
        obtain ⟨⟨c0, c1, c2⟩, p0, p1, p2⟩ := bx_on HBx.out hX hP hz3
        have HZ3 := Lib.hid hz3
        clear hz3
        clear hSz
        simp only [List.getElem_toArray, List.getElem_cons_succ, List.getElem_cons_zero]
        go_simp
        exact HK.out _ _ ⟨.slice aU U.length dU, by simp [updV, f38], rfl, HSz.out, Below.refl _ _⟩
      · intro V wz hSz hd
        have f39 := hd _ rfl ⟨39, .data⟩ (by simp) rfl
        have f38 := hd _ rfl ⟨38, .guard⟩ (by simp) rfl
        clear hd
        have f39 : V 39 = .slice aU U.length dU := f39
        have f38 : V 38 = .bool false := f38
        refine wpOp_step (o := _) rfl (fun K' hK => ?_)
        have HK := Lib.hid hK
        clear hK
        have HSz := Lib.hid hSz
        have hz3 := HB9.out.trans (hSz.mono HB9.out.size)
        obtain ⟨⟨c0, c1, c2⟩, p0, p1, p2⟩ := bx_on HBx.out hX hP hz3
        have HZ3 := Lib.hid hz3
        clear hz3
        simp only [List.getElem_toArray, List.getElem_cons_succ, List.getElem_cons_zero]
        go_simp
        go_at_call 9
        refine (HCU.out wz hSz).mono ?_
        rintro e w9 ⟨v9, vs9, rfl, ho9, hb9⟩
        exact HK.out _ _ ⟨v9, by simp [updV, f39, f38], ho9.at, hSz.trans (hb9.mono hSz.size), hb9⟩
      · intro V wz hSz hd
        have f40 := hd _ rfl ⟨40, .data⟩ (by simp) rfl
        have f38 := hd _ rfl ⟨38, .guard⟩ (by simp) rfl
        clear hd
        have g40 : WaysAt wz (V 40) U := f40
        have HG40 := Lib.hid g40
        obtain ⟨a40, c40, f40, _⟩ := g40
        have f38 : V 38 = .bool false := f38
        refine wpOp_step (o := _) rfl (fun K' hK => ?_)
        have HK := Lib.hid hK
        clear hK
        have HSz := Lib.hid hSz
        have hz3 := HB9.out.trans (hSz.mono HB9.out.size)
        obtain ⟨⟨c0, c1, c2⟩, p0, p1, p2⟩ := bx_on HBx.out hX hP hz3
        have HZ3 := Lib.hid hz3
        clear hz3
        simp only [List.getElem_toArray, List.getElem_cons_succ, List.getElem_cons_zero]
        go_simp
        go_at_call 14
        refine (implMoves _ U m (by omega) (by have := HUT.out; omega) HM wz (by rw [← f40]; exact HG40.out)).mono ?_
        rintro e w9 ⟨rfl, hb9⟩
        exact HK.out _ _ ⟨.int .i64 (m : Int), by simp [updV, f40, f38], rfl, hSz.trans (hb9.mono hSz.size), hb9⟩
      · intro V wz hSz hd
        have f38 := hd _ rfl ⟨38, .guard⟩ (by simp) rfl
        clear hd
        have f38 : V 38 = .bool false := f38
        refine wpOp_step (o := _) rfl (fun K' hK => ?_)
        have HK := Lib.hid hK
        clear hK
        have HSz := Lib.hid hSz
        have hz3 := HB9.out.trans (hSz.mono HB9.out.size)
        obtain ⟨⟨c0, c1, c2⟩, p0, p1, p2⟩ := bx_on HBx.out hX hP hz3
        have HZ3 := Lib.hid hz3
        clear hz3
        clear hSz
        simp only [List.getElem_toArray, List.getElem_cons_succ, List.getElem_cons_zero]
        go_simp
        exact HK.out _ _ ⟨.pointer (some ⟨w1.heap.size + 1, 2, none⟩), by simp [updV, f38], rfl, HSz.out, Below.refl _ _⟩
      · intro V wz hSz hd
        have f42 := hd _ rfl ⟨42, .data⟩ (by simp) rfl
        have f38 := hd _ rfl ⟨38, .guard⟩ (by simp) rfl
        clear hd
        have f42 : V 42 = .pointer (some ⟨w1.heap.size + 1, 2, none⟩) := f42
        have f38 : V 38 = .bool false := f38
        refine wpOp_step (o := _) rfl (fun K' hK => ?_)
        have HK := Lib.hid hK
        clear hK
        have HSz := Lib.hid hSz
        have hz3 := HB9.out.trans (hSz.mono HB9.out.size)
        obtain ⟨⟨c0, c1, c2⟩, p0, p1, p2⟩ := bx_on HBx.out hX hP hz3
        have HZ3 := Lib.hid hz3
        clear hz3
        clear hSz
        simp only [List.getElem_toArray, List.getElem_cons_succ, List.getElem_cons_zero]
        go_simp
        exact HK.out _ _ ⟨.slice aW Ws.length cW, by simp [updV, f42, f38], rfl, HSz.out, Below.refl _ _⟩
      · intro V wz hSz hd
        have f43 := hd _ rfl ⟨43, .data⟩ (by simp) rfl
        have f38 := hd _ rfl ⟨38, .guard⟩ (by simp) rfl
        clear hd
        have f43 : V 43 = .slice aW Ws.length cW := f43
        have f38 : V 38 = .bool false := f38
        refine wpOp_step (o := _) rfl (fun K' hK => ?_)
        have HK := Lib.hid hK
        clear hK
        have HSz := Lib.hid hSz
        have hz3 := HB9.out.trans (hSz.mono HB9.out.size)
        obtain ⟨⟨c0, c1, c2⟩, p0, p1, p2⟩ := bx_on HBx.out hX hP hz3
        have HZ3 := Lib.hid hz3
        clear hz3
        simp only [List.getElem_toArray, List.getElem_cons_succ, List.getElem_cons_zero]
        go_simp
        go_at_call 9
        refine (HCW.out wz hSz).mono ?_
        rintro e w9 ⟨v9, vs9, rfl, ho9, hb9⟩
        exact HK.out _ _ ⟨v9, by simp [updV, f43, f38], ho9.at, hSz.trans (hb9.mono hSz.size), hb9⟩
      · intro V wz hSz hd
        have f44 := hd _ rfl ⟨44, .data⟩ (by simp) rfl
        have f38 := hd _ rfl ⟨38, .guard⟩ (by simp) rfl
        clear hd
        have g44 : WaysAt wz (V 44) Ws := f44
        have HG44 := Lib.hid g44
        obtain ⟨a44, c44, f44, _⟩ := g44
        have f38 : V 38 = .bool false := f38
        refine wpOp_step (o := _) rfl (fun K' hK => ?_)
        have HK := Lib.hid hK
        clear hK
        have HSz := Lib.hid hSz
        have hz3 := HB9.out.trans (hSz.mono HB9.out.size)
        obtain ⟨⟨c0, c1, c2⟩, p0, p1, p2⟩ := bx_on HBx.out hX hP hz3
        have HZ3 := Lib.hid hz3
        clear hz3
        simp only [List.getElem_toArray, List.getElem_cons_succ, List.getElem_cons_zero]
        go_simp
        go_at_call 14
        refine (implMoves _ Ws n (by omega) (by have := HTW.out; omega) HN wz (by rw [← f44]; exact HG44.out)).mono ?_
        rintro e w9 ⟨rfl, hb9⟩
        exact HK.out _ _ ⟨.int .i64 (n : Int), by simp [updV, f44, f38], rfl, hSz.trans (hb9.mono hSz.size), hb9⟩
      · intro V wz hSz hd
        have f38 := hd _ rfl ⟨38, .guard⟩ (by simp) rfl
        clear hd
        have f38 : V 38 = .bool false := f38
        refine wpOp_step (o := _) rfl (fun K' hK => ?_)
        have HK := Lib.hid hK
        clear hK
        have HSz := Lib.hid hSz
        have hz3 := HB9.out.trans (hSz.mono HB9.out.size)
        obtain ⟨⟨c0, c1, c2⟩, p0, p1, p2⟩ := bx_on HBx.out hX hP hz3
        have HZ3 := Lib.hid hz3
        clear hz3
        clear hSz
        simp only [List.getElem_toArray, List.getElem_cons_succ, List.getElem_cons_zero]
        go_simp
        exact HK.out _ _ ⟨.int .i64 (k : Int), by simp [updV, f38], rfl, HSz.out, Below.refl _ _⟩
      · intro V wz hSz hd
        have f45 := hd _ rfl ⟨45, .data⟩ (by simp) rfl
        have f46 := hd _ rfl ⟨46, .data⟩ (by simp) rfl
        have f38 := hd _ rfl ⟨38, .guard⟩ (by simp) rfl
        clear hd
        have f45 : V 45 = .int .i64 (n : Int) := f45
        have f46 : V 46 = .int .i64 (k : Int) := f46
        have f38 : V 38 = .bool false := f38
        refine wpOp_step (o := _) rfl (fun K' hK => ?_)
        have HK := Lib.hid hK
        clear hK
        have HSz := Lib.hid hSz
        have hz3 := HB9.out.trans (hSz.mono HB9.out.size)
        obtain ⟨⟨c0, c1, c2⟩, p0, p1, p2⟩ := bx_on HBx.out hX hP hz3
        have HZ3 := Lib.hid hz3
        clear hz3
        clear hSz
        simp only [List.getElem_toArray, List.getElem_cons_succ, List.getElem_cons_zero]
        go_simp
        exact HK.out _ _ ⟨.int .i64 (m : Int), by simp [updV, f45, f46, f38], rfl, HSz.out, Below.refl _ _⟩
      · intro V wz hSz hd
        have f41 := hd _ rfl ⟨41, .data⟩ (by simp) rfl
        have f47 := hd _ rfl ⟨47, .data⟩ (by simp) rfl
        have f38 := hd _ rfl ⟨38, .guard⟩ (by simp) rfl
        clear hd
        have f41 : V 41 = .int .i64 (m : Int) := f41
        have f47 : V 47 = .int .i64 (m : Int) := f47
        have f38 : V 38 = .bool false := f38
        refine wpOp_step (o := _) rfl (fun K' hK => ?_)
        have HK := Lib.hid hK
        clear hK
        have HSz := Lib.hid hSz
        have hz3 := HB9.out.trans (hSz.mono HB9.out.size)
        obtain ⟨⟨c0, c1, c2⟩, p0, p1, p2⟩ := bx_on HBx.out hX hP hz3
        have HZ3 := Lib.hid hz3
        clear hz3
        clear hSz
        simp only [List.getElem_toArray, List.getElem_cons_succ, List.getElem_cons_zero]
        go_simp
        exact HK.out _ _ ⟨.bool false, by simp [updV, f41, f47, f38], rfl, HSz.out, Below.refl _ _⟩
      · intro V wz hSz hd
        have f38 := hd _ rfl ⟨38, .data⟩ (by simp) rfl
        have f48 := hd _ rfl ⟨48, .data⟩ (by simp) rfl
        clear hd
        have f38 : V 38 = .bool false := f38
        have f48 : V 48 = .bool false := f48
        refine wpOp_step (o := _) rfl (fun K' hK => ?_)
        have HK := Lib.hid hK
        clear hK
        have HSz := Lib.hid hSz
        have hz3 := HB9.out.trans (hSz.mono HB9.out.size)
        obtain ⟨⟨c0, c1, c2⟩, p0, p1, p2⟩ := bx_on HBx.out hX hP hz3
        have HZ3 := Lib.hid hz3
        clear hz3
        clear hSz
        simp only [List.getElem_toArray, List.getElem_cons_succ, List.getElem_cons_zero]
        go_simp
        exact HK.out _ _ ⟨.bool false, by simp [updV, f38, f48], rfl, HSz.out, Below.refl _ _⟩
    · skip
      have f49 := hFz 49 (by decide)
      clear hFz
      have f49 : V 49 = .bool false := f49
      have HB10 := Lib.hid (HB9.out.trans (hSz.mono HB9.out.size))
      have HUY := Lib.hid (waysAt_on HUU.out hSz)
      obtain ⟨xb, hxb⟩ : ∃ xb, xb = wz := ⟨_, rfl⟩
      subst hxb
      clear hSz
      (try dsimp only)
      have HCY : Hid (∀ wr, Below xb.heap.size xb wr → Calls Tryz.prog 9 #[.slice aU U.length dU] wr (OutBack wr U)) := Lib.hid fun wr hb => lawCopied _ U (by omega) (by have := HUT.out; omega) wr (waysAt_on HUY.out hb)
      go_upto_region 9 with fail
      clear f49
      refine wp_region_inv_last 17 (fun jj v w' => match jj with | 0 => v = .agg #[.int .i64 a, .int .i64 b, .string C] | 1 => ∃ p, v = .slice (some p) 0 0 | 2 => v = .slice ax S.length cx | 3 => Ints w' v S | 4 => ∃ p, v = .slice (some p) 0 0 | 5 => v = .slice ay G.length cy | 6 => Ints w' v G | 7 => v = .pointer (some ⟨w1.heap.size + 1, 0, none⟩) | 8 => v = .int .i64 (T : Int) | 9 => v = .slice aU U.length dU | 10 => WaysAt w' v U | 11 => v = .int .i64 (m : Int) | 12 => v = .slice aU U.length dU | 13 => WaysAt w' v U | 14 => ∃ u, v = .agg #[.int .i64 (T : Int), .int .i64 (m : Int), u] ∧ WaysAt w' u U | 15 => v = .int .i64 ((0 : Nat) : Int) | 16 => v = .bool true | _ => True) (fun w' => Below xb.heap.size xb w') (by as_aux_lemma => kernel_rfl) (by as_aux_lemma => kernel_rfl) (by as_aux_lemma => kernel_rfl) (by as_aux_lemma => kernel_rfl) (below_drewN (Below.refl _ _) 1) ?mono (fun mk hmk => ?main)
      case mono =>
        intro j v wa wb h hb
        match j, h with
        | 0, h => exact h
        | 1, h => exact h
        | 2, h => exact h
        | 3, h => exact ints_on h hb
        | 4, h => exact h
        | 5, h => exact h
        | 6, h => exact ints_on h hb
        | 7, h => exact h
        | 8, h => exact h
        | 9, h => exact h
        | 10, h => exact waysAt_on h hb
        | 11, h => exact h
        | 12, h => exact h
        | 13, h => exact waysAt_on h hb
        | 14, ⟨u, h1, h2⟩ => exact ⟨u, h1, waysAt_on h2 hb⟩
        | 15, h => exact h
        | 16, h => exact h
        | k + 17, h => exact trivial
      case main =>
        simp only [putsL, Nat.reduceAdd, Act.put, List.setIfInBounds_toArray, List.set_cons_zero, List.set_cons_succ] at hmk
        subst hmk
        refine ⟨⟨fun jj => if jj = 17 then .bool false else undef, rfl⟩, fun i hi hne => ?_, fun V wz hSz hFz => ?_⟩
        · have hi2 : i < 18 := hi
          have hcase : i = 0 ∨ i = 1 ∨ i = 2 ∨ i = 3 ∨ i = 4 ∨ i = 5 ∨ i = 6 ∨ i = 7 ∨ i = 8 ∨ i = 9 ∨ i = 10 ∨ i = 11 ∨ i = 12 ∨ i = 13 ∨ i = 14 ∨ i = 15 ∨ i = 16 := by omega
          clear hi hi2
          rcases hcase with rfl | rfl | rfl | rfl | rfl | rfl | rfl | rfl | rfl | rfl | rfl | rfl | rfl | rfl | rfl | rfl | rfl
          · clear hne
            intro V wz hSz hd
            clear hd
            refine wpOp_step (o := _) rfl (fun K' hK => ?_)
            have HK := Lib.hid hK
            clear hK
            have HSz := Lib.hid hSz
            have hz3 := HB10.out.trans (hSz.mono HB10.out.size)
            obtain ⟨⟨c0, c1, c2⟩, p0, p1, p2⟩ := bx_on HBx.out hX hP hz3
            have HZ3 := Lib.hid hz3
            clear hz3
            clear hSz
            simp only [List.getElem_toArray, List.getElem_cons_zero]
            go_simp
            exact HK.out _ _ ⟨.agg #[.int .i64 a, .int .i64 b, .string C], rfl, rfl, HSz.out, Below.refl _ _⟩
          · clear hne
            intro V wz hSz hd
            clear hd
            refine wpOp_step (o := _) rfl (fun K' hK => ?_)
            have HK := Lib.hid hK
            clear hK
            have HSz := Lib.hid hSz
            have hz3 := HB10.out.trans (hSz.mono HB10.out.size)
            obtain ⟨⟨c0, c1, c2⟩, p0, p1, p2⟩ := bx_on HBx.out hX hP hz3
            have HZ3 := Lib.hid hz3
            clear hz3
            clear hSz
            simp only [List.getElem_toArray, List.getElem_cons_succ, List.getElem_cons_zero]
            go_simp
            exact HK.out _ _ ⟨_, rfl, ⟨_, rfl⟩, HSz.out.alloc HSz.out.size _, (Below.refl _ _).alloc (Nat.le_refl _) _⟩
          · clear hne
            intro V wz hSz hd
            clear hd
            refine wpOp_step (o := _) rfl (fun K' hK => ?_)
            have HK := Lib.hid hK
            clear hK
            have HSz := Lib.hid hSz
            have hz3 := HB10.out.trans (hSz.mono HB10.out.size)
            obtain ⟨⟨c0, c1, c2⟩, p0, p1, p2⟩ := bx_on HBx.out hX hP hz3
            have HZ3 := Lib.hid hz3
            clear hz3
            clear hSz
            simp only [List.getElem_toArray, List.getElem_cons_succ, List.getElem_cons_zero]
            go_simp
            exact HK.out _ _ ⟨.slice ax S.length cx, rfl, rfl, HSz.out, Below.refl _ _⟩
          · clear hne
            intro V wz hSz hd
            have f1 := hd _ rfl ⟨1, .data⟩ (by simp) rfl
            have f2 := hd _ rfl ⟨2, .data⟩ (by simp) rfl
            clear hd
            obtain ⟨p1', f1⟩ := f1
            have f1 : V 1 = .slice (some p1') 0 0 := f1
            have f2 : V 2 = .slice ax S.length cx := f2
            refine wpOp_step (o := _) rfl (fun K' hK => ?_)
            have HK := Lib.hid hK
            clear hK
            have HSz := Lib.hid hSz
            have hz3 := HB10.out.trans (hSz.mono HB10.out.size)
            obtain ⟨⟨c0, c1, c2⟩, p0, p1, p2⟩ := bx_on HBx.out hX hP hz3
            have HZ3 := Lib.hid hz3
            clear hz3
            rw [if_pos (by rfl)]
            refine wp_copy (.tmp 89) (.tmp 90) rfl p1' (by simp [Act.eval, f1]) (.slice ax S.length cx) S (by simp [Act.eval, f2]) (ints_on HS.out HZ3.out) (by omega) ?_
            intro v9 w9 hv9 hb9
            exact HK.out _ _ ⟨v9, rfl, hv9, hSz.trans (hb9.mono hSz.size), hb9⟩
          · clear hne
            intro V wz hSz hd
            clear hd
            refine wpOp_step (o := _) rfl (fun K' hK => ?_)
            have HK := Lib.hid hK
            clear hK
            have HSz := Lib.hid hSz
            have hz3 := HB10.out.trans (hSz.mono HB10.out.size)
            obtain ⟨⟨c0, c1, c2⟩, p0, p1, p2⟩ := bx_on HBx.out hX hP hz3
            have HZ3 := Lib.hid hz3
            clear hz3
            clear hSz
            simp only [List.getElem_toArray, List.getElem_cons_succ, List.getElem_cons_zero]
            go_simp
            exact HK.out _ _ ⟨_, rfl, ⟨_, rfl⟩, HSz.out.alloc HSz.out.size _, (Below.refl _ _).alloc (Nat.le_refl _) _⟩
          · clear hne
            intro V wz hSz hd
            clear hd
            refine wpOp_step (o := _) rfl (fun K' hK => ?_)
            have HK := Lib.hid hK
            clear hK
            have HSz := Lib.hid hSz
            have hz3 := HB10.out.trans (hSz.mono HB10.out.size)
            obtain ⟨⟨c0, c1, c2⟩, p0, p1, p2⟩ := bx_on HBx.out hX hP hz3
            have HZ3 := Lib.hid hz3
            clear hz3
            clear hSz
            simp only [List.getElem_toArray, List.getElem_cons_succ, List.getElem_cons_zero]
            go_simp
            exact HK.out _ _ ⟨.slice ay G.length cy, rfl, rfl, HSz.out, Below.refl _ _⟩
          · clear hne
            intro V wz hSz hd
            have f4 := hd _ rfl ⟨4, .data⟩ (by simp) rfl
            have f5 := hd _ rfl ⟨5, .data⟩ (by simp) rfl
            clear hd
            obtain ⟨p4', f4⟩ := f4
            have f4 : V 4 = .slice (some p4') 0 0 := f4
            have f5 : V 5 = .slice ay G.length cy := f5
            refine wpOp_step (o := _) rfl (fun K' hK => ?_)
            have HK := Lib.hid hK
            clear hK
            have HSz := Lib.hid hSz
            have hz3 := HB10.out.trans (hSz.mono HB10.out.size)
            obtain ⟨⟨c0, c1, c2⟩, p0, p1, p2⟩ := bx_on HBx.out hX hP hz3
            have HZ3 := Lib.hid hz3
            clear hz3
            rw [if_pos (by rfl)]
            refine wp_copy (.tmp 92) (.tmp 93) rfl p4' (by simp [Act.eval, f4]) (.slice ay G.length cy) G (by simp [Act.eval, f5]) (ints_on HG.out HZ3.out) (by omega) ?_
            intro v9 w9 hv9 hb9
            exact HK.out _ _ ⟨v9, rfl, hv9, hSz.trans (hb9.mono hSz.size), hb9⟩
          · clear hne
            intro V wz hSz hd
            clear hd
            refine wpOp_step (o := _) rfl (fun K' hK => ?_)
            have HK := Lib.hid hK
            clear hK
            have HSz := Lib.hid hSz
            have hz3 := HB10.out.trans (hSz.mono HB10.out.size)
            obtain ⟨⟨c0, c1, c2⟩, p0, p1, p2⟩ := bx_on HBx.out hX hP hz3
            have HZ3 := Lib.hid hz3
            clear hz3
            clear hSz
            simp only [List.getElem_toArray, List.getElem_cons_succ, List.getElem_cons_zero]
            go_simp
            exact HK.out _ _ ⟨.pointer (some ⟨w1.heap.size + 1, 0, none⟩), rfl, rfl, HSz.out, Below.refl _ _⟩
          · clear hne
            intro V wz hSz hd
            have f7 := hd _ rfl ⟨7, .data⟩ (by simp) rfl
            clear hd
            have f7 : V 7 = .pointer (some ⟨w1.heap.size + 1, 0, none⟩) := f7
            refine wpOp_step (o := _) rfl (fun K' hK => ?_)
            have HK := Lib.hid hK
            clear hK
            have HSz := Lib.hid hSz
            have hz3 := HB10.out.trans (hSz.mono HB10.out.size)
            obtain ⟨⟨c0, c1, c2⟩, p0, p1, p2⟩ := bx_on HBx.out hX hP hz3
            have HZ3 := Lib.hid hz3
            clear hz3
            clear hSz
            simp only [List.getElem_toArray, List.getElem_cons_succ, List.getElem_cons_zero]
            go_simp
            exact HK.out _ _ ⟨.int .i64 (T : Int), by simp [updV, f7], rfl, HSz.out, Below.refl _ _⟩
          · clear hne
            intro V wz hSz hd
            clear hd
            refine wpOp_step (o := _) rfl (fun K' hK => ?_)
            have HK := Lib.hid hK
            clear hK
            have HSz := Lib.hid hSz
            have hz3 := HB10.out.trans (hSz.mono HB10.out.size)
            obtain ⟨⟨c0, c1, c2⟩, p0, p1, p2⟩ := bx_on HBx.out hX hP hz3
            have HZ3 := Lib.hid hz3
            clear hz3
            clear hSz
            simp only [List.getElem_toArray, List.getElem_cons_succ, List.getElem_cons_zero]
            go_simp
            exact HK.out _ _ ⟨.slice aU U.length dU, rfl, rfl, HSz.out, Below.refl _ _⟩
          · clear hne
            intro V wz hSz hd
            have f9 := hd _ rfl ⟨9, .data⟩ (by simp) rfl
            clear hd
            have f9 : V 9 = .slice aU U.length dU := f9
            refine wpOp_step (o := _) rfl (fun K' hK => ?_)
            have HK := Lib.hid hK
            clear hK
            have HSz := Lib.hid hSz
            have hz3 := HB10.out.trans (hSz.mono HB10.out.size)
            obtain ⟨⟨c0, c1, c2⟩, p0, p1, p2⟩ := bx_on HBx.out hX hP hz3
            have HZ3 := Lib.hid hz3
            clear hz3
            simp only [List.getElem_toArray, List.getElem_cons_succ, List.getElem_cons_zero]
            go_simp
            go_at_call 9
            refine (HCY.out wz hSz).mono ?_
            rintro e w9 ⟨v9, vs9, rfl, ho9, hb9⟩
            exact HK.out _ _ ⟨v9, by simp [updV, f9], ho9.at, hSz.trans (hb9.mono hSz.size), hb9⟩
          · clear hne
            intro V wz hSz hd
            have f10 := hd _ rfl ⟨10, .data⟩ (by simp) rfl
            clear hd
            have g10 : WaysAt wz (V 10) U := f10
            have HG10 := Lib.hid g10
            obtain ⟨a10, c10, f10, _⟩ := g10
            refine wpOp_step (o := _) rfl (fun K' hK => ?_)
            have HK := Lib.hid hK
            clear hK
            have HSz := Lib.hid hSz
            have hz3 := HB10.out.trans (hSz.mono HB10.out.size)
            obtain ⟨⟨c0, c1, c2⟩, p0, p1, p2⟩ := bx_on HBx.out hX hP hz3
            have HZ3 := Lib.hid hz3
            clear hz3
            simp only [List.getElem_toArray, List.getElem_cons_succ, List.getElem_cons_zero]
            go_simp
            go_at_call 14
            refine (implMoves _ U m (by omega) (by have := HUT.out; omega) HM wz (by rw [← f10]; exact HG10.out)).mono ?_
            rintro e w9 ⟨rfl, hb9⟩
            exact HK.out _ _ ⟨.int .i64 (m : Int), by simp [updV, f10], rfl, hSz.trans (hb9.mono hSz.size), hb9⟩
          · clear hne
            intro V wz hSz hd
            clear hd
            refine wpOp_step (o := _) rfl (fun K' hK => ?_)
            have HK := Lib.hid hK
            clear hK
            have HSz := Lib.hid hSz
            have hz3 := HB10.out.trans (hSz.mono HB10.out.size)
            obtain ⟨⟨c0, c1, c2⟩, p0, p1, p2⟩ := bx_on HBx.out hX hP hz3
            have HZ3 := Lib.hid hz3
            clear hz3
            clear hSz
            simp only [List.getElem_toArray, List.getElem_cons_succ, List.getElem_cons_zero]
            go_simp
            exact HK.out _ _ ⟨.slice aU U.length dU, rfl, rfl, HSz.out, Below.refl _ _⟩
          · clear hne
            intro V wz hSz hd
            have f12 := hd _ rfl ⟨12, .data⟩ (by simp) rfl
            clear hd
            have f12 : V 12 = .slice aU U.length dU := f12
            refine wpOp_step (o := _) rfl (fun K' hK => ?_)
            have HK := Lib.hid hK
            clear hK
            have HSz := Lib.hid hSz
            have hz3 := HB10.out.trans (hSz.mono HB10.out.size)
            obtain ⟨⟨c0, c1, c2⟩, p0, p1, p2⟩ := bx_on HBx.out hX hP hz3
            have HZ3 := Lib.hid hz3
            clear hz3
            simp only [List.getElem_toArray, List.getElem_cons_succ, List.getElem_cons_zero]
            go_simp
            go_at_call 9
            refine (HCY.out wz hSz).mono ?_
            rintro e w9 ⟨v9, vs9, rfl, ho9, hb9⟩
            exact HK.out _ _ ⟨v9, by simp [updV, f12], ho9.at, hSz.trans (hb9.mono hSz.size), hb9⟩
          · clear hne
            intro V wz hSz hd
            have f8 := hd _ rfl ⟨8, .data⟩ (by simp) rfl
            have f11 := hd _ rfl ⟨11, .data⟩ (by simp) rfl
            have f13 := hd _ rfl ⟨13, .data⟩ (by simp) rfl
            clear hd
            have f8 : V 8 = .int .i64 (T : Int) := f8
            have f11 : V 11 = .int .i64 (m : Int) := f11
            have g13 : WaysAt wz (V 13) U := f13
            have HG13 := Lib.hid g13
            obtain ⟨a13, c13, f13, _⟩ := g13
            refine wpOp_step (o := _) rfl (fun K' hK => ?_)
            have HK := Lib.hid hK
            clear hK
            have HSz := Lib.hid hSz
            have hz3 := HB10.out.trans (hSz.mono HB10.out.size)
            obtain ⟨⟨c0, c1, c2⟩, p0, p1, p2⟩ := bx_on HBx.out hX hP hz3
            have HZ3 := Lib.hid hz3
            clear hz3
            clear hSz
            simp only [List.getElem_toArray, List.getElem_cons_succ, List.getElem_cons_zero]
            go_simp
            exact HK.out _ _ ⟨.agg #[.int .i64 (T : Int), .int .i64 (m : Int), .slice a13 U.length c13], by simp [updV, f8, f11, f13], ⟨_, rfl, (by rw [← f13]; exact HG13.out)⟩, HSz.out, Below.refl _ _⟩
          · clear hne
            intro V wz hSz hd
            have f0 := hd _ rfl ⟨0, .data⟩ (by simp) rfl
            have f3 := hd _ rfl ⟨3, .data⟩ (by simp) rfl
            have f6 := hd _ rfl ⟨6, .data⟩ (by simp) rfl
            have f14 := hd _ rfl ⟨14, .data⟩ (by simp) rfl
            clear hd
            have f0 : V 0 = .agg #[.int .i64 a, .int .i64 b, .string C] := f0
            have f3 : Ints wz (V 3) S := f3
            have HF3 := Lib.hid f3
            clear f3
            have f6 : Ints wz (V 6) G := f6
            have HF6 := Lib.hid f6
            clear f6
            obtain ⟨u14, f14, g14⟩ := f14
            have f14 : V 14 = .agg #[.int .i64 (T : Int), .int .i64 (m : Int), u14] := f14
            have HG14 := Lib.hid g14
            clear g14
            refine wpOp_step (o := _) rfl (fun K' hK => ?_)
            have HK := Lib.hid hK
            clear hK
            have HSz := Lib.hid hSz
            have hz3 := HB10.out.trans (hSz.mono HB10.out.size)
            obtain ⟨⟨c0, c1, c2⟩, p0, p1, p2⟩ := bx_on HBx.out hX hP hz3
            have HZ3 := Lib.hid hz3
            clear hz3
            simp only [List.getElem_toArray, List.getElem_cons_succ, List.getElem_cons_zero]
            go_simp
            go_at_call 15
            refine (HPF.out _ _ _ wz HF3.out HF6.out HG14.out HZ3.out).mono ?_
            rintro e w9 ⟨rfl, hb9⟩
            exact HK.out _ _ ⟨.int .i64 ((0 : Nat) : Int), by simp [updV, f0, f14], rfl, hSz.trans (hb9.mono hSz.size), hb9⟩
          · clear hne
            intro V wz hSz hd
            have f15 := hd _ rfl ⟨15, .data⟩ (by simp) rfl
            clear hd
            have f15 : V 15 = .int .i64 ((0 : Nat) : Int) := f15
            refine wpOp_step (o := _) rfl (fun K' hK => ?_)
            have HK := Lib.hid hK
            clear hK
            have HSz := Lib.hid hSz
            have hz3 := HB10.out.trans (hSz.mono HB10.out.size)
            obtain ⟨⟨c0, c1, c2⟩, p0, p1, p2⟩ := bx_on HBx.out hX hP hz3
            have HZ3 := Lib.hid hz3
            clear hz3
            clear hSz
            simp only [List.getElem_toArray, List.getElem_cons_succ, List.getElem_cons_zero]
            go_simp
            exact HK.out _ _ ⟨.bool true, by simp [updV, f15], rfl, HSz.out, Below.refl _ _⟩
        · skip
          have f16 := hFz 16 (by decide) (by decide)
          clear hFz
          have f16 : V 16 = .bool true := f16
          refine wpOp_step (o := _) rfl (fun K' hK => ?_)
          have HK := Lib.hid hK
          clear hK
          have HSz := Lib.hid hSz
          clear hSz
          simp only [List.getElem_toArray, List.getElem_cons_succ, List.getElem_cons_zero]
          go_simp
          refine HK.out _ _ ?_
          clear HK K'
          have HE := Lib.hid (HB3.out.trans ((HB10.out.trans (HSz.out.mono HB10.out.size)).mono HB3.out.size))
          clear HSz f16
          go_wp2_with fail
          go_ret
          exact ⟨rfl, HE.out⟩

set_option maxRecDepth 100000 in
theorem walk_big (N : Nat) (v : Value) (hN : N ≤ maxLen) (w : World) (hc : CodeB w v N w.heap.size) (h : 1048576 < N) :
    Calls Tryz.prog 3 #[v] w fun e w' => e = .returned (.bool true) ∧ Below w.heap.size w w' := by
  go_enter Tryz.func3, Tryz.ntmps3
  go_wp2_with fail
  refine (bigYes N _ v w hN hc h).mono ?_
  rintro e w' ⟨rfl, rfl⟩
  go_wp2_with fail
  go_ret
  exact ⟨rfl, Below.refl _ _⟩

theorem walkL (v : Value) (N : Nat) (w : World) (hc : CodeB w v N w.heap.size) (hN : N ≤ maxLen) (hl : laidMetH Tryz.prog Rows.fnUncrossedRow.laid w) :
    Calls Tryz.prog 3 #[v] w fun e w' => e = .returned (.bool true) ∧ Below w.heap.size w w' := by
  rcases Nat.lt_or_ge 1048576 N with h | h
  · exact walk_big N v hN w hc h
  · exact walk_in N v h w hc (both_of_laid hl).1 (both_of_laid hl).2
-- LIFT
set_option maxRecDepth 100000 in
theorem lifted (os : Os) (started : os.Started) (H : Type) (enc : TypeId × Value → H) :
    ReturnsInHanded {} Tryz.checked os 3 .any (fun w args => (Rows.fnUncrossedSpec.pre enc Tryz.prog Tryz.f3 [] false w args ∧ laidMetH Tryz.prog Rows.fnUncrossedRow.laid w) ∧ sizedMet enc Tryz.prog Tryz.f3 (OpenSpec.ofChange Rows.fnUncrossedSpec) false w args)
      (Rows.fnUncrossedSpec.post enc Tryz.prog Tryz.f3 false true false false) := by
  refine returnsInHanded_of_change_and (C := Tryz.checked) (X := fun w _ => laidMetH Tryz.prog Rows.fnUncrossedRow.laid w) (fun _ _ _ hh h => h.of_heap hh) own started (by kernel_rfl) Tryz.func3
    (ChangeSpec.witness_shaped (enc := enc) (C := Tryz.checked) (os := os) (X := fun w _ => laidMetH Tryz.prog Rows.fnUncrossedRow.laid w) false (World.doorLaid Tryz.prog 400 os) #[.slice none 0 0] 8 rfl (World.shaped_of_RefB (by kernel_rfl) (by kernel_rfl)) (by kernel_rfl) (by kernel_rfl) (by kernel_rfl) (both_met os _)) ?_
  intro W base args ds gs before hval0 hW _ hsz0 hL _
  have hsz : (DataW.weightsEach Tryz.prog (Tryz.f3.params.toList ++ Rows.fnUncrossedSpec.plain.varTypes Tryz.prog) (ds ++ gs)).all (· ≤ reachBytes) = true := hsz0
  clear hsz0
  have hval : ∀ (j : Nat) t v, Tryz.f3.params[j]? = some t → args[j]? = some v → Value.okWide Tryz.prog W .any base t v := hval0
  have hW' := hW
  obtain ⟨p, q, hA0, hV, rfl, hfz, hnd⟩ := hW
  have hA : DataW.TrodAll enc Tryz.prog W 0 (fun _ => true) true Tryz.f3.params.toList args.toList ds p := hA0
  rw [Tryz.params3] at hA hval hsz
  obtain ⟨v0, vs0, d0, ds0, p0, q0, hargs, rfl, rfl, h0, r0⟩ := trodAll_cons hA
  obtain ⟨rfl, rfl, rfl⟩ := trodAll_nil r0
  obtain rfl : args = #[v0] := by cases args; simp_all
  have hs0 := (both_of_laid hL).1
  obtain ⟨rfl, _⟩ := sides_vars hs0 hs0 hV
  obtain ⟨L0, w0, l0, again0⟩ := open_arg_bytes (hval 0 22 v0 rfl rfl) h0
  clear hA0 hval0 hsz
  simp only [List.append_nil] at hW'
  refine (walkL v0 L0 W w0 l0 hL).mono fun e W' ⟨he, hg⟩ => ?_
  subst he
  obtain ⟨_, hvs⟩ := sides_vars hs0 (hs0.below hg) hV
  exact ⟨_, rfl, post_of_below (pa := p0 ++ ([])) (pv := q) hW' (fun _ _ _ => (trodAll_cons_mk (shut_bool Tryz.underlying4 _) trodAll_mk0)) (fun sp hsp => (trodAll_cons_mk (again0 W' hg sp (fun p hp => hsp p (by simp [hp]))) trodAll_mk0)) (fun sp _ => hvs sp) (by simp)
    hg (ok_one (by kernel_rfl) rfl (okWide_bool_mk Tryz.underlying4 _))⟩

theorem said : Rows.FnUncrossedSaid :=
  OpenClaim.holds_of_wide 3 Tryz.f3 rfl rfl rfl rfl rfl rfl rfl ⟨rfl, rfl, rfl, rfl, rfl⟩ rfl rfl rfl rfl rfl (by kernel_rfl) Tryz.func3 (by kernel_rfl)
    (of_decide_eq_true (by kernel_rfl)) (by unfold Func.isWrapper; first | (rw [if_pos (by decide +kernel)]; kernel_rfl) | (rw [if_neg (by decide +kernel)]; exact ⟨rfl, rfl⟩))
    (fun os started H enc _ => lifted os started H enc)

theorem plain (f : FuncId) (fn : Func) (hf : Tryz.pinned.checked.prog.funcNamed "loop.example/g00961/laws.FnUncrossed" = some f) (hfn : Tryz.pinned.checked.prog.funcs[f]? = some fn) :
    Rows.fnUncrossedCard.stood.looks = Tryz.pinned.checked.prog.looks [] ∧ ∀ (j : Nat) t, fn.params[j]? = some t → Tryz.pinned.checked.prog.wantsStandIn t = false := by
  obtain rfl : f = 3 := Option.some.inj ((show Tryz.prog.funcNamed "loop.example/g00961/laws.FnUncrossed" = some 3 by kernel_rfl).symm.trans hf) |>.symm
  obtain rfl : fn = Tryz.f3 := (Option.some.inj (Tryz.func3.symm.trans hfn)).symm
  refine ⟨by kernel_rfl, fun j t ht => ?_⟩
  rw [Tryz.params3] at ht
  have hm : t ∈ [22] := by simpa using Array.mem_of_getElem? ht
  have hall : ([22].all fun u => !Tryz.prog.wantsStandIn u) = true := by kernel_rfl
  exact (show Tryz.prog.wantsStandIn t = false by simpa using List.all_eq_true.1 hall t hm)

theorem proved : Rows.FnUncrossedCardSaid :=
  Claim7.holds_tied_plain_at .later [] _ _ _ _ said (fun _ h => by cases h) (by kernel_rfl) (fun _ h => by cases h) fnUncrossed_row_tie rfl ⟨rfl, rfl⟩ (by kernel_rfl) rfl plain (by kernel_rfl)

end Go.Proofs.YtkbfbifepaoojaaGreatDoor.fnUncrossed

