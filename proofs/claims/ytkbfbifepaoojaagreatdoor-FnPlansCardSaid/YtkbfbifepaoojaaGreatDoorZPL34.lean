/-
  THE LAW FnPlans: a drawn plan without meetings has no fault but swaps and rings; with one move more told it has that one. A tied card: where the listed variables hold what their initialisers laid.
-/
import Derived.Test.YtkbfbifepaoojaaGreatDoorZPL20
import Derived.Test.YtkbfbifepaoojaaGreatDoorZPL31
import Derived.Test.YtkbfbifepaoojaaGreatDoorZPL32
import Derived.Test.YtkbfbifepaoojaaGreatDoorZPL33
import Derived.Deep.CutRange
import Derived.Deep.DeepCutAuto
import Derived.Deep.RegionHeld3
import Derived.IntWalk
import Derived.Lib.SmallJoins
import Derived.Test.YtkbfbifepaoojaaGreatDoorCards
import Derived.Test.YtkbfbifepaoojaaGreatDoorTie
import Derived.SevenTiedAt
namespace Go.Proofs.YtkbfbifepaoojaaGreatDoor.fnPlans
set_option maxRecDepth 4096
open Go.ChangeShapes Go.WideShapes Go.ChangeAt Go.RowKit Go.Joins
open Go.ChangeMaps (open_string shut_string)

theorem bigYes (N g : Nat) (v : Value) (w : World) (hN : N ≤ maxLen) (hc : CodeB w v N g) (h : 1048576 < N) : Calls Tryz.prog 6 #[v] w fun e w' => e = .returned (.bool true) ∧ w = w' := by
  obtain ⟨a, c, rfl, _⟩ := hc
  have hN2 : N ≤ 9223372036854775807 := by unfold maxLen at hN; omega
  have hd : (1048576 : Int) < (N : Int) := by omega
  go_enter Tryz.func6, Tryz.ntmps6
  go_wp2
  go_ret
  exact ⟨rfl, rfl⟩
theorem bigNo (N g : Nat) (v : Value) (w : World) (hc : CodeB w v N g) (h : N ≤ 1048576) : Calls Tryz.prog 6 #[v] w fun e w' => e = .returned (.bool false) ∧ w = w' := by
  obtain ⟨a, c, rfl, _⟩ := hc
  have hd : ¬ (1048576 : Int) < (N : Int) := by omega
  go_enter Tryz.func6, Tryz.ntmps6
  go_wp2
  go_ret
  exact ⟨rfl, rfl⟩

/-- The box of the map, the box of the plan. -/
def Bx (a b : Nat) (C : ByteArray) (T n : Nat) (vW : Value) (X P : Nat) (w : World) : Prop :=
  (w.cell? ⟨X, 0, none⟩ = some (.int .i64 a) ∧ w.cell? ⟨X, 1, none⟩ = some (.int .i64 b) ∧ w.cell? ⟨X, 2, none⟩ = some (.string C)) ∧ (w.cell? ⟨P, 0, none⟩ = some (.int .i64 (T : Int)) ∧ w.cell? ⟨P, 1, none⟩ = some (.int .i64 (n : Int)) ∧ w.cell? ⟨P, 2, none⟩ = some vW)
theorem bx_on {a b : Nat} {C : ByteArray} {T n : Nat} {vW : Value} {X P : Nat} {w w' : World} (h : Bx a b C T n vW X P w) (hX : X < w.heap.size) (hP : P < w.heap.size) (hb : Below w.heap.size w w') : Bx a b C T n vW X P w' := by
  obtain ⟨⟨c0, c1, c2⟩, p0, p1, p2⟩ := h
  exact ⟨⟨(hb.cell (p := ⟨X, 0, none⟩) hX).trans c0, (hb.cell (p := ⟨X, 1, none⟩) hX).trans c1, (hb.cell (p := ⟨X, 2, none⟩) hX).trans c2⟩, (hb.cell (p := ⟨P, 0, none⟩) hP).trans p0, (hb.cell (p := ⟨P, 1, none⟩) hP).trans p1, (hb.cell (p := ⟨P, 2, none⟩) hP).trans p2⟩
theorem own_not {w : World} {B s n Q : Nat} {e t : TypeId} {v : Value} {xs : List Value} {cs : Array Value} {fr : Nat × Nat} (h : w.ownsRow B e s v n xs) (hq : w.heap[Q]? = some (.cells cs t fr)) (he : e ≠ t) : v.ownBlock = none ∨ v.ownBlock ≠ some Q := by
  rcases h.2 with ⟨rfl, _⟩ | ⟨g, cap, cur, rfl, _, hg, _⟩
  · exact .inl rfl
  · refine .inr fun e2 => ?_
    have e3 : g = Q := Option.some.inj e2
    subst e3
    rw [hg] at hq
    injection Option.some.inj hq with _ h2 _
    exact he h2
theorem out_set {w : World} {B Q j : Nat} {x u : Value} {ty : TypeId} {vs : List Value} {LL : List (List Int)} {cs : Array Value} {fr : Nat × Nat} (h : OutW w B x vs LL) (hq : w.heap[Q]? = some (.cells cs ty fr)) (h1 : 51 ≠ ty) (h2 : 3 ≠ ty) : OutW (w.setCell ⟨Q, j, none⟩ u) B x vs LL :=
  ⟨h.own.kept (set_grown w Q j u) (own_not h.own hq h1), h.rows.kept (set_grown w Q j u) fun i y hy => own_not (h.rows.row i y (LL[i]'(by rw [← h.rows.len]; exact (List.getElem?_eq_some_iff.1 hy).1)) hy (List.getElem?_eq_getElem _)) hq h2⟩
theorem out_set3 {w : World} {B Q : Nat} {x u0 u1 u2 c0 c1 c2 : Value} {vs : List Value} {LL : List (List Int)} (h : OutW w B x vs LL) (hq : w.heap[Q]? = some (.cells #[c0, c1, c2] 29 (0, 0))) : OutW (set3 w Q u0 u1 u2) B x vs LL :=
  out_set (out_set (out_set h hq (by decide) (by decide)) (heap_setCell_same _ _ 0 _ _ u0 hq) (by decide) (by decide)) (heap_setCell_same _ _ 1 _ _ u1 (heap_setCell_same _ _ 0 _ _ u0 hq)) (by decide) (by decide)
theorem set3_below {w w1 : World} {B R : Nat} {u0 u1 u2 : Value} (h : Below B w w1) (hR : B ≤ R) : Below B w (set3 w1 R u0 u1 u2) :=
  ((h.setCell (p := ⟨R, 0, none⟩) hR u0).setCell (p := ⟨R, 1, none⟩) hR u1).setCell (p := ⟨R, 2, none⟩) hR u2
/-- What the law wants behind t times. -/
def wantV (Ws : List (List Int)) (t : Nat) : Nat := if anyT (fun t => decide (0 < swapsV Ws (t : Int))) t = true then 5 else if anyT (fun t => decide (0 < ringsV Ws (t : Int))) t = true then 6 else 0
theorem want_succ {Ws : List (List Int)} {t r s q : Nat} (hr : ringsV Ws (t : Int) = r) (hs : swapsV Ws (t : Int) = s) (hq : wantV Ws t = q) : wantV Ws (t + 1) = if 0 < s then 5 else if 0 < r ∧ q = 0 then 6 else q := by
  rw [← hq]
  unfold wantV
  rw [anyT_succ, anyT_succ, hr, hs]
  by_cases h1 : 0 < s <;> by_cases h2 : 0 < r <;> cases anyT (fun t => decide (0 < swapsV Ws (t : Int))) t <;> cases anyT (fun t => decide (0 < ringsV Ws (t : Int))) t <;> simp [h1, h2]
theorem want_le (Ws : List (List Int)) (t : Nat) : wantV Ws t ≤ 6 := by
  unfold wantV
  split
  · omega
  · split <;> omega
theorem plan_ask {a b : Nat} {C : ByteArray} {S G : List Int} {T : Nat} {Ws : List (List Int)} (h : PlanD a b C S G T Ws) : askV a b C S G (T : Int) = true := by
  have hff : (freeL a b C).length ≤ 12 := Nat.le_trans (picks_len _ _) (Nat.le_trans (Nat.min_le_left _ _) h.few)
  have hf : (freeL a b C).length * (T + 1) ≤ 12 * 6 := Nat.mul_le_mul hff (by have := h.t5; omega)
  have hf2 : ((freeL a b C).length : Int) * ((T : Int) + 1) ≤ 240 := by
    have : (((freeL a b C).length * (T + 1) : Nat) : Int) ≤ 240 := by omega
    simpa using this
  have hfree : ∀ (t i : Nat) (L : List Int) (x : Int), Ws[i]? = some L → L[t]? = some x → freeV a b C x = true := by
    intro t
    induction t with
    | zero =>
      intro i L x hL hx
      have hi : i < S.length := by rw [← h.walk.len]; exact (List.getElem?_eq_some_iff.1 hL).1
      have hc : S[i]? = some S[i] := List.getElem?_eq_getElem hi
      have := h.walk.start i L _ hL hc
      rw [hx] at this
      rw [Option.some.inj this]
      exact ((asc_iff.1 h.sa) i _ hi hc).1
    | succ t ih =>
      intro i L x hL hx
      have htl := (List.getElem?_eq_some_iff.1 hx).1
      have hy : L[t]? = some (L[t]'(by omega)) := List.getElem?_eq_getElem (by omega)
      rcases h.walk.step i L t _ x hL hy hx with e | e
      · rw [e]
        exact ih i L _ hL hy
      · exact (mem_around.1 e).2.1
  have hmem : ∀ d ∈ lastsL Ws, freeV a b C d = true := fun d hd => by
    unfold lastsL at hd
    obtain ⟨L, hL, hdL⟩ := List.mem_flatMap.1 hd
    obtain ⟨i, hi, rfl⟩ := List.getElem_of_mem hL
    have hLi : Ws[i]? = some Ws[i] := List.getElem?_eq_getElem hi
    obtain ⟨t, ht⟩ := List.mem_iff_getElem?.1 (List.mem_of_mem_drop hdL)
    exact hfree t i _ d hLi ht
  have hga : ascV a b C G = true := asc_yes fun i x hi hx => ⟨hmem x (once_mem.1 (h.gm x (List.mem_of_getElem? hx))), fun y h0 hy => by
    obtain ⟨h1, e1⟩ := List.getElem?_eq_some_iff.1 hx
    obtain ⟨h2, e2⟩ := List.getElem?_eq_some_iff.1 hy
    rw [← e1, ← e2]
    exact List.pairwise_iff_getElem.1 h.gu (i - 1) i h2 h1 (by omega)⟩
  have hgl : G.length ≤ S.length := by
    have hn : G.Nodup := h.gu.imp fun h => by omega
    have h1 := nodup_subP (Y := lastsL Ws) hn fun d hd => once_mem.1 (h.gm d hd)
    have key : ∀ X : List (List Int), (lastsL X).length ≤ X.length := fun X => by
      induction X with
      | nil => exact Nat.le_refl _
      | cons L X ih =>
        unfold lastsL at ih ⊢
        rw [List.flatMap_cons, List.length_append, List.length_cons]
        have : (lastOf L).length ≤ 1 := by unfold lastOf; rw [List.length_drop]; omega
        omega
    have h2 := key Ws
    have h3 := h.walk.len
    omega
  have h1 := h.s1
  have h5 := h.s5
  have ht := h.t5
  unfold askV rgB
  rw [h.ok, h.sa, hga]
  simp only [Bool.true_and, Bool.and_eq_true, decide_eq_true_eq]
  exact ⟨by omega, by omega, by omega, hf2⟩
theorem plan_goals {a b : Nat} {C : ByteArray} {S G : List Int} {T : Nat} {Ws : List (List Int)} (h : PlanD a b C S G T Ws) : G.length ≤ 30 := by
  have hn : G.Nodup := h.gu.imp fun h => by omega
  have := nodup_subP hn h.gm
  have h2 := once_len (lastsL Ws)
  have h3 := lasts_len Ws
  have h4 := walk_tot h.walk h.s5 h.t5
  omega
theorem plan_faults {a b : Nat} {C : ByteArray} {S G : List Int} {T : Nat} {Ws : List (List Int)} (h : PlanD a b C S G T Ws) : planV a b C S G (T : Int) (movesW Ws : Int) Ws = wantV Ws T ∧ planV a b C S G (T : Int) ((movesW Ws + 1 : Nat) : Int) Ws = if wantV Ws T = 0 then 8 else wantV Ws T := by
  have h1 := h.s1
  have h10 : S.length ≤ 10 := by have := h.s5; omega
  have hk := plan_ask h
  have hG : ∀ d ∈ G, d ∈ lastsL Ws := fun d hd => once_mem.1 (h.gm d hd)
  rw [walk_plan h.walk h1 h10 hk hG, walk_plan h.walk h1 h10 hk hG]
  unfold wantV
  constructor
  · simp
  · have hne : ((movesW Ws + 1 : Nat) : Int) ≠ (movesW Ws : Int) := by omega
    rw [if_pos hne]
    by_cases g1 : anyT (fun t => decide (0 < swapsV Ws (t : Int))) T = true
    · simp [g1]
    · by_cases g2 : anyT (fun t => decide (0 < ringsV Ws (t : Int))) T = true
      · simp [g1, g2]
      · simp [g1, g2]

set_option maxHeartbeats 8000000 in
theorem walk_in (N : Nat) (v : Value) (hN : N ≤ 1048576) (w : World) (hc : CodeB w v N w.heap.size) (hs : SidesAt w) (he : ErrAt w) :
    Calls Tryz.prog 4 #[v] w fun e w' => e = .returned (.bool true) ∧ Below w.heap.size w w' := by
  have HSd := Lib.hid hs
  have HEr := Lib.hid he
  clear hs he
  go_enter Tryz.func4, Tryz.ntmps4
  go_wp2_with fail
  refine (bigNo N _ v w hc hN).mono ?_
  rintro e w' ⟨rfl, rfl⟩
  go_wp2_with fail
  refine (drawWalk N v w (by omega) hc).mono ?_
  rintro e w1 ⟨a, b, C, S, G, T, Ws, x, y, vW, vs, rfl, hD, hx, hy, hO, hB⟩
  have hvl := hO.rows.len
  obtain ⟨ax, cx, rfl⟩ := own_form hx
  obtain ⟨ay, cy, rfl⟩ := own_form hy
  obtain ⟨aW, cW, rfl⟩ := own_form hO.own
  rw [hvl] at hO ⊢
  obtain ⟨n, HN⟩ : ∃ n, Hid (movesW Ws = n) := ⟨_, rfl⟩
  rw [HN.out]
  have HD := Lib.hid hD
  have hn30 : n ≤ 30 := by rw [← HN.out]; exact Nat.le_trans (movesW_le Ws) (walk_tot hD.walk hD.s5 hD.t5)
  have hT5 := hD.t5
  have hWl : Ws.length ≤ 5 := by rw [hD.walk.len]; exact hD.s5
  have HTW : Hid (totW Ws ≤ 30) := Lib.hid (walk_tot hD.walk hD.s5 hD.t5)
  have HC : Hid (C.size ≤ 1048576) := Lib.hid (by have := hD.few; omega)
  have hGl : G.length ≤ 30 := plan_goals hD
  have hSl : S.length ≤ 5 := hD.s5
  have bA := (Below.refl _ w1).alloc (Nat.le_refl _) (.cells #[.int .i64 a, .int .i64 b, .string C] 25)
  have bB := (Below.refl _ (w1.alloc (.cells #[.int .i64 a, .int .i64 b, .string C] 25))).alloc (Nat.le_refl _) (.cells #[.int .i64 (T : Int), .int .i64 (n : Int), .slice aW Ws.length cW] 29)
  have hr0 := (bB.block w1.heap.size (by simp)).trans (heap_alloc_new w1 (.cells #[.int .i64 a, .int .i64 b, .string C] 25))
  have hr1 := heap_alloc_new (w1.alloc (.cells #[.int .i64 a, .int .i64 b, .string C] 25)) (.cells #[.int .i64 (T : Int), .int .i64 (n : Int), .slice aW Ws.length cW] 29)
  rw [World.size_alloc] at hr1
  have b3 := bA.trans (bB.mono bA.size)
  obtain ⟨w3, hw3⟩ : ∃ w3, w3 = (w1.alloc (.cells #[.int .i64 a, .int .i64 b, .string C] 25)).alloc (.cells #[.int .i64 (T : Int), .int .i64 (n : Int), .slice aW Ws.length cW] 29) := ⟨_, rfl⟩
  rw [← hw3] at hr0 hr1 b3
  have HBx : Hid (Bx a b C T n (.slice aW Ws.length cW) w1.heap.size (w1.heap.size + 1) w3) := Lib.hid ⟨(row3 hr0).1, (row3 hr1).1⟩
  have hX := (Array.getElem?_eq_some_iff.1 hr0).1
  have hP := (Array.getElem?_eq_some_iff.1 hr1).1
  have HS := Lib.hid (ints_on (ints_of_own hx) b3)
  have HG := Lib.hid (ints_on (ints_of_own hy) b3)
  have HW := Lib.hid (waysAt_on hO.at b3)
  have HB3 := Lib.hid (hB.trans (b3.mono hB.size))
  have HCP : Hid (∀ wr, Below w3.heap.size w3 wr → Calls Tryz.prog 9 #[.slice aW Ws.length cW] wr (OutBack wr Ws)) := Lib.hid fun wr hb => lawCopied _ Ws (by omega) (by have := HTW.out; omega) wr (waysAt_on HW.out hb)
  have HPF : Hid (∀ (m f : Nat) (vs vg vq : Value) wr, Hid (planV a b C S G (T : Int) (m : Int) Ws = f) → Ints wr vs S → Ints wr vg G → WaysAt wr vq Ws → Below w3.heap.size w3 wr → Calls Tryz.prog 15 #[.agg #[.int .i64 a, .int .i64 b, .string C], vs, vg, .agg #[.int .i64 (T : Int), .int .i64 (m : Int), vq]] wr (Made wr (.int .i64 (f : Int)))) := Lib.hid fun m f vs vg vq wr hf h1 h2 h3 hb => by
    have hbw := HB3.out.trans (hb.mono HB3.out.size)
    exact implPlanFault a b C S G T m Ws vs vg vq f HC.out (by omega) (by omega) (by omega) (by have := HTW.out; omega) hf wr h1 h2 h3 (HSd.out.below hbw) (HEr.out.below hbw)
  have HW3 := Lib.hid hw3
  clear hc hx hy hO hB bA bB hr0 hr1 b3 hw3 hvl hD
  go_upto_region 4 with fail
  rw [← HW3.out]
  refine wp_region_inv_last 9 (fun k v w' => match k with | 0 => v = .pointer (some ⟨w1.heap.size + 1, 0, none⟩) | 1 => v = .int .i64 (T : Int) | 2 => v = .pointer (some ⟨w1.heap.size + 1, 1, none⟩) | 3 => v = .int .i64 (n : Int) | 4 => v = .pointer (some ⟨w1.heap.size + 1, 2, none⟩) | 5 => v = .slice aW Ws.length cW | 6 => ∃ vs, OutW w' w3.heap.size v vs Ws | 7 => ∃ u vs, v = .agg #[.int .i64 (T : Int), .int .i64 (n : Int), u] ∧ OutW w' w3.heap.size u vs Ws | 8 => ∃ Q, v = .pointer (some ⟨Q, 0, none⟩) ∧ w3.heap.size ≤ Q ∧ w'.heap[Q]? = some (.cells #[.int .i64 0, .int .i64 0, .slice none 0 0] 29 (0, 0)) | _ => True) (fun w' => Below w3.heap.size w3 w') (by as_aux_lemma => kernel_rfl) (by as_aux_lemma => kernel_rfl) (by as_aux_lemma => kernel_rfl) (by as_aux_lemma => kernel_rfl) (below_drewN (Below.refl _ _) 1) ?mono (fun mk hmk => ?main)
  case mono =>
    intro j v wa wb h hb
    match j, h with
    | 0, h => exact h
    | 1, h => exact h
    | 2, h => exact h
    | 3, h => exact h
    | 4, h => exact h
    | 5, h => exact h
    | 6, ⟨vs, h⟩ => exact ⟨vs, h.onD hb⟩
    | 7, ⟨u, vs, h1, h2⟩ => exact ⟨u, vs, h1, h2.onD hb⟩
    | 8, ⟨Q, h1, h2, h3⟩ => exact ⟨Q, h1, h2, (hb.block Q (Array.getElem?_eq_some_iff.1 h3).1).trans h3⟩
    | k + 9, h => exact trivial
  case main =>
    simp only [putsL, Nat.reduceAdd, Act.put, List.setIfInBounds_toArray, List.set_cons_zero, List.set_cons_succ] at hmk
    subst hmk
    refine ⟨⟨fun _ => undef, rfl⟩, fun i hi hne => ?_, fun V wz hSz hFz => ?_⟩
    · have hi2 : i < 10 := hi
      have hcase : i = 0 ∨ i = 1 ∨ i = 2 ∨ i = 3 ∨ i = 4 ∨ i = 5 ∨ i = 6 ∨ i = 7 ∨ i = 8 := by omega
      clear hi hi2
      rcases hcase with rfl | rfl | rfl | rfl | rfl | rfl | rfl | rfl | rfl
      · clear hne
        intro V wz hSz hd
        clear hd
        refine wpOp_step (o := _) rfl (fun K' hK => ?_)
        have HK := Lib.hid hK
        clear hK
        have HSz := Lib.hid hSz
        obtain ⟨⟨c0, c1, c2⟩, p0, p1, p2⟩ := bx_on HBx.out hX hP hSz
        clear hSz
        simp only [List.getElem_toArray, List.getElem_cons_zero]
        go_simp
        exact HK.out _ _ ⟨.pointer (some ⟨w1.heap.size + 1, 0, none⟩), rfl, rfl, HSz.out, Below.refl _ _⟩
      · clear hne
        intro V wz hSz hd
        have f0 := hd _ rfl ⟨0, .data⟩ (by simp) rfl
        clear hd
        have f0 : V 0 = .pointer (some ⟨w1.heap.size + 1, 0, none⟩) := f0
        refine wpOp_step (o := _) rfl (fun K' hK => ?_)
        have HK := Lib.hid hK
        clear hK
        have HSz := Lib.hid hSz
        obtain ⟨⟨c0, c1, c2⟩, p0, p1, p2⟩ := bx_on HBx.out hX hP hSz
        clear hSz
        simp only [List.getElem_toArray, List.getElem_cons_succ, List.getElem_cons_zero]
        go_simp
        exact HK.out _ _ ⟨.int .i64 (T : Int), by simp [updV, f0], rfl, HSz.out, Below.refl _ _⟩
      · clear hne
        intro V wz hSz hd
        clear hd
        refine wpOp_step (o := _) rfl (fun K' hK => ?_)
        have HK := Lib.hid hK
        clear hK
        have HSz := Lib.hid hSz
        obtain ⟨⟨c0, c1, c2⟩, p0, p1, p2⟩ := bx_on HBx.out hX hP hSz
        clear hSz
        simp only [List.getElem_toArray, List.getElem_cons_succ, List.getElem_cons_zero]
        go_simp
        exact HK.out _ _ ⟨.pointer (some ⟨w1.heap.size + 1, 1, none⟩), rfl, rfl, HSz.out, Below.refl _ _⟩
      · clear hne
        intro V wz hSz hd
        have f2 := hd _ rfl ⟨2, .data⟩ (by simp) rfl
        clear hd
        have f2 : V 2 = .pointer (some ⟨w1.heap.size + 1, 1, none⟩) := f2
        refine wpOp_step (o := _) rfl (fun K' hK => ?_)
        have HK := Lib.hid hK
        clear hK
        have HSz := Lib.hid hSz
        obtain ⟨⟨c0, c1, c2⟩, p0, p1, p2⟩ := bx_on HBx.out hX hP hSz
        clear hSz
        simp only [List.getElem_toArray, List.getElem_cons_succ, List.getElem_cons_zero]
        go_simp
        exact HK.out _ _ ⟨.int .i64 (n : Int), by simp [updV, f2], rfl, HSz.out, Below.refl _ _⟩
      · clear hne
        intro V wz hSz hd
        clear hd
        refine wpOp_step (o := _) rfl (fun K' hK => ?_)
        have HK := Lib.hid hK
        clear hK
        have HSz := Lib.hid hSz
        obtain ⟨⟨c0, c1, c2⟩, p0, p1, p2⟩ := bx_on HBx.out hX hP hSz
        clear hSz
        simp only [List.getElem_toArray, List.getElem_cons_succ, List.getElem_cons_zero]
        go_simp
        exact HK.out _ _ ⟨.pointer (some ⟨w1.heap.size + 1, 2, none⟩), rfl, rfl, HSz.out, Below.refl _ _⟩
      · clear hne
        intro V wz hSz hd
        have f4 := hd _ rfl ⟨4, .data⟩ (by simp) rfl
        clear hd
        have f4 : V 4 = .pointer (some ⟨w1.heap.size + 1, 2, none⟩) := f4
        refine wpOp_step (o := _) rfl (fun K' hK => ?_)
        have HK := Lib.hid hK
        clear hK
        have HSz := Lib.hid hSz
        obtain ⟨⟨c0, c1, c2⟩, p0, p1, p2⟩ := bx_on HBx.out hX hP hSz
        clear hSz
        simp only [List.getElem_toArray, List.getElem_cons_succ, List.getElem_cons_zero]
        go_simp
        exact HK.out _ _ ⟨.slice aW Ws.length cW, by simp [updV, f4], rfl, HSz.out, Below.refl _ _⟩
      · clear hne
        intro V wz hSz hd
        have f5 := hd _ rfl ⟨5, .data⟩ (by simp) rfl
        clear hd
        have f5 : V 5 = .slice aW Ws.length cW := f5
        refine wpOp_step (o := _) rfl (fun K' hK => ?_)
        have HK := Lib.hid hK
        clear hK
        have HSz := Lib.hid hSz
        obtain ⟨⟨c0, c1, c2⟩, p0, p1, p2⟩ := bx_on HBx.out hX hP hSz
        simp only [List.getElem_toArray, List.getElem_cons_succ, List.getElem_cons_zero]
        go_simp
        go_at_call 9
        refine (HCP.out wz hSz).mono ?_
        rintro e w9 ⟨v9, vs9, rfl, ho9, hb9⟩
        exact HK.out _ _ ⟨v9, by simp [updV, f5], ⟨vs9, ho9.baseD hSz.size⟩, hSz.trans (hb9.mono hSz.size), hb9⟩
      · clear hne
        intro V wz hSz hd
        have f1 := hd _ rfl ⟨1, .data⟩ (by simp) rfl
        have f3 := hd _ rfl ⟨3, .data⟩ (by simp) rfl
        have f6 := hd _ rfl ⟨6, .data⟩ (by simp) rfl
        clear hd
        have f1 : V 1 = .int .i64 (T : Int) := f1
        have f3 : V 3 = .int .i64 (n : Int) := f3
        obtain ⟨vs6, g6⟩ := f6
        have HG6 := Lib.hid g6
        obtain ⟨u6, c6, f6⟩ := own_form g6.own
        clear g6
        refine wpOp_step (o := _) rfl (fun K' hK => ?_)
        have HK := Lib.hid hK
        clear hK
        have HSz := Lib.hid hSz
        obtain ⟨⟨c0, c1, c2⟩, p0, p1, p2⟩ := bx_on HBx.out hX hP hSz
        clear hSz
        simp only [List.getElem_toArray, List.getElem_cons_succ, List.getElem_cons_zero]
        go_simp
        exact HK.out _ _ ⟨.agg #[.int .i64 (T : Int), .int .i64 (n : Int), .slice u6 vs6.length c6], by simp [updV, f1, f3, f6], ⟨_, _, rfl, (by rw [← f6]; exact HG6.out)⟩, HSz.out, Below.refl _ _⟩
      · clear hne
        intro V wz hSz hd
        clear hd
        refine wpOp_step (o := _) rfl (fun K' hK => ?_)
        have HK := Lib.hid hK
        clear hK
        have HSz := Lib.hid hSz
        obtain ⟨⟨c0, c1, c2⟩, p0, p1, p2⟩ := bx_on HBx.out hX hP hSz
        simp only [List.getElem_toArray, List.getElem_cons_succ, List.getElem_cons_zero]
        go_simp
        exact HK.out _ _ ⟨_, rfl, ⟨wz.heap.size, rfl, hSz.size, heap_alloc_new wz _⟩, hSz.alloc hSz.size _, (Below.refl _ _).alloc (Nat.le_refl _) _⟩
    · skip
      have f7 := hFz 7 (by decide) (by decide)
      have f8 := hFz 8 (by decide) (by decide)
      clear hFz
      obtain ⟨u7, vs7, f7, g7⟩ := f7
      have f7 : V 7 = .agg #[.int .i64 (T : Int), .int .i64 (n : Int), u7] := f7
      have HG7 := Lib.hid g7
      obtain ⟨a7, c7, rfl⟩ := own_form g7.own
      clear g7
      obtain ⟨Q, f8, hQ, g8⟩ := f8
      have f8 : V 8 = .pointer (some ⟨Q, 0, none⟩) := f8
      have HQ := Lib.hid g8
      obtain ⟨⟨q0, q1, q2⟩, z0, z1, z2⟩ := row3 g8
      clear g8
      refine wpOp_step (o := _) rfl (fun K' hK => ?_)
      have HK := Lib.hid hK
      clear hK
      have HSz := Lib.hid hSz
      clear hSz
      simp only [List.getElem_toArray, List.getElem_cons_succ, List.getElem_cons_zero]
      go_simp
      refine HK.out _ _ ?_
      clear HK K'
      have hwA := set3_below (u0 := .int .i64 (T : Int)) (u1 := .int .i64 (n : Int)) (u2 := .slice a7 vs7.length c7) HSz.out hQ
      have hOA := out_set3 (u0 := .int .i64 (T : Int)) (u1 := .int .i64 (n : Int)) (u2 := .slice a7 vs7.length c7) HG7.out HQ.out
      have hRA := set3_row (u0 := .int .i64 (T : Int)) (u1 := .int .i64 (n : Int)) (u2 := .slice a7 vs7.length c7) HQ.out
      obtain ⟨wA, hwAe⟩ : ∃ wA, wA = set3 wz Q (.int .i64 (T : Int)) (.int .i64 (n : Int)) (.slice a7 vs7.length c7) := ⟨_, rfl⟩
      rw [← hwAe] at hwA hOA hRA
      have HWA := Lib.hid hwA
      have HQA := Lib.hid hRA
      have HUA := Lib.hid hOA.at
      have HWE := Lib.hid hwAe
      clear hwA hOA hRA hwAe HSz HG7 HQ q0 q1 q2 z0 z1 z2 f7 f8
      go_upto_region 5 with fail
      have HWE2 : Hid (((wz.setCell ⟨Q, 0, none⟩ (.int .i64 (T : Int))).setCell ⟨Q, 1, none⟩ (.int .i64 (n : Int))).setCell ⟨Q, 2, none⟩ (.slice a7 vs7.length c7) = wA) := Lib.hid HWE.out.symm
      rw [HWE2.out]
      clear HWE HWE2
      refine wp_region_inv_last 9 (fun k v w' => match k with | 0 => v = .agg #[.int .i64 a, .int .i64 b, .string C] | 1 => ∃ p, v = .slice (some p) 0 0 | 2 => v = .slice ax S.length cx | 3 => Ints w' v S | 4 => ∃ p, v = .slice (some p) 0 0 | 5 => v = .slice ay G.length cy | 6 => Ints w' v G | 7 => v = .agg #[.int .i64 (T : Int), .int .i64 (n : Int), .slice a7 vs7.length c7] | 8 => v = .int .i64 ((wantV Ws T : Nat) : Int) | _ => True) (fun w' => Below wA.heap.size wA w') (by as_aux_lemma => kernel_rfl) (by as_aux_lemma => kernel_rfl) (by as_aux_lemma => kernel_rfl) (by as_aux_lemma => kernel_rfl) (below_drewN (Below.refl _ _) 1) ?mono (fun mk hmk => ?main)
      case mono =>
        intro j v wa wb h hb
        match j, h with
        | 0, h => exact h
        | 1, h => exact h
        | 2, h => exact h
        | 3, h => exact ints_on h hb
        | 4, h => exact h
        | 5, h => exact h
        | 6, h => exact ints_on h hb
        | 7, h => exact h
        | 8, h => exact h
        | k + 9, h => exact trivial
      case main =>
        simp only [putsL, Nat.reduceAdd, Act.put, List.setIfInBounds_toArray, List.set_cons_zero, List.set_cons_succ] at hmk
        subst hmk
        refine ⟨⟨fun _ => undef, rfl⟩, fun i hi hne => ?_, fun V wz hSz hFz => ?_⟩
        · have hi2 : i < 10 := hi
          have hcase : i = 0 ∨ i = 1 ∨ i = 2 ∨ i = 3 ∨ i = 4 ∨ i = 5 ∨ i = 6 ∨ i = 7 ∨ i = 8 := by omega
          clear hi hi2
          rcases hcase with rfl | rfl | rfl | rfl | rfl | rfl | rfl | rfl | rfl
          · clear hne
            intro V wz hSz hd
            clear hd
            refine wpOp_step (o := _) rfl (fun K' hK => ?_)
            have HK := Lib.hid hK
            clear hK
            have HSz := Lib.hid hSz
            have hz3 := HWA.out.trans (hSz.mono HWA.out.size)
            obtain ⟨⟨c0, c1, c2⟩, p0, p1, p2⟩ := bx_on HBx.out hX hP hz3
            have HZ3 := Lib.hid hz3
            have rQ := (hSz.block Q (Array.getElem?_eq_some_iff.1 HQA.out).1).trans HQA.out
            obtain ⟨⟨q0, q1, q2⟩, _⟩ := row3 rQ
            clear hz3 rQ
            clear hSz
            simp only [List.getElem_toArray, List.getElem_cons_zero]
            go_simp
            exact HK.out _ _ ⟨.agg #[.int .i64 a, .int .i64 b, .string C], rfl, rfl, HSz.out, Below.refl _ _⟩
          · clear hne
            intro V wz hSz hd
            clear hd
            refine wpOp_step (o := _) rfl (fun K' hK => ?_)
            have HK := Lib.hid hK
            clear hK
            have HSz := Lib.hid hSz
            have hz3 := HWA.out.trans (hSz.mono HWA.out.size)
            obtain ⟨⟨c0, c1, c2⟩, p0, p1, p2⟩ := bx_on HBx.out hX hP hz3
            have HZ3 := Lib.hid hz3
            have rQ := (hSz.block Q (Array.getElem?_eq_some_iff.1 HQA.out).1).trans HQA.out
            obtain ⟨⟨q0, q1, q2⟩, _⟩ := row3 rQ
            clear hz3 rQ
            clear hSz
            simp only [List.getElem_toArray, List.getElem_cons_succ, List.getElem_cons_zero]
            go_simp
            exact HK.out _ _ ⟨_, rfl, ⟨_, rfl⟩, HSz.out.alloc HSz.out.size _, (Below.refl _ _).alloc (Nat.le_refl _) _⟩
          · clear hne
            intro V wz hSz hd
            clear hd
            refine wpOp_step (o := _) rfl (fun K' hK => ?_)
            have HK := Lib.hid hK
            clear hK
            have HSz := Lib.hid hSz
            have hz3 := HWA.out.trans (hSz.mono HWA.out.size)
            obtain ⟨⟨c0, c1, c2⟩, p0, p1, p2⟩ := bx_on HBx.out hX hP hz3
            have HZ3 := Lib.hid hz3
            have rQ := (hSz.block Q (Array.getElem?_eq_some_iff.1 HQA.out).1).trans HQA.out
            obtain ⟨⟨q0, q1, q2⟩, _⟩ := row3 rQ
            clear hz3 rQ
            clear hSz
            simp only [List.getElem_toArray, List.getElem_cons_succ, List.getElem_cons_zero]
            go_simp
            exact HK.out _ _ ⟨.slice ax S.length cx, rfl, rfl, HSz.out, Below.refl _ _⟩
          · clear hne
            intro V wz hSz hd
            have f1 := hd _ rfl ⟨1, .data⟩ (by simp) rfl
            have f2 := hd _ rfl ⟨2, .data⟩ (by simp) rfl
            clear hd
            obtain ⟨p1', f1⟩ := f1
            have f1 : V 1 = .slice (some p1') 0 0 := f1
            have f2 : V 2 = .slice ax S.length cx := f2
            refine wpOp_step (o := _) rfl (fun K' hK => ?_)
            have HK := Lib.hid hK
            clear hK
            have HSz := Lib.hid hSz
            have hz3 := HWA.out.trans (hSz.mono HWA.out.size)
            obtain ⟨⟨c0, c1, c2⟩, p0, p1, p2⟩ := bx_on HBx.out hX hP hz3
            have HZ3 := Lib.hid hz3
            have rQ := (hSz.block Q (Array.getElem?_eq_some_iff.1 HQA.out).1).trans HQA.out
            obtain ⟨⟨q0, q1, q2⟩, _⟩ := row3 rQ
            clear hz3 rQ
            clear hSz
            rw [if_pos (by rfl)]
            refine wp_copy (.tmp 30) (.tmp 31) rfl p1' (by simp [Act.eval, f1]) (.slice ax S.length cx) S (by simp [Act.eval, f2]) (ints_on HS.out HZ3.out) (by omega) ?_
            intro v9 w9 hv9 hb9
            exact HK.out _ _ ⟨v9, rfl, hv9, HSz.out.trans (hb9.mono HSz.out.size), hb9⟩
          · clear hne
            intro V wz hSz hd
            clear hd
            refine wpOp_step (o := _) rfl (fun K' hK => ?_)
            have HK := Lib.hid hK
            clear hK
            have HSz := Lib.hid hSz
            have hz3 := HWA.out.trans (hSz.mono HWA.out.size)
            obtain ⟨⟨c0, c1, c2⟩, p0, p1, p2⟩ := bx_on HBx.out hX hP hz3
            have HZ3 := Lib.hid hz3
            have rQ := (hSz.block Q (Array.getElem?_eq_some_iff.1 HQA.out).1).trans HQA.out
            obtain ⟨⟨q0, q1, q2⟩, _⟩ := row3 rQ
            clear hz3 rQ
            clear hSz
            simp only [List.getElem_toArray, List.getElem_cons_succ, List.getElem_cons_zero]
            go_simp
            exact HK.out _ _ ⟨_, rfl, ⟨_, rfl⟩, HSz.out.alloc HSz.out.size _, (Below.refl _ _).alloc (Nat.le_refl _) _⟩
          · clear hne
            intro V wz hSz hd
            clear hd
            refine wpOp_step (o := _) rfl (fun K' hK => ?_)
            have HK := Lib.hid hK
            clear hK
            have HSz := Lib.hid hSz
            have hz3 := HWA.out.trans (hSz.mono HWA.out.size)
            obtain ⟨⟨c0, c1, c2⟩, p0, p1, p2⟩ := bx_on HBx.out hX hP hz3
            have HZ3 := Lib.hid hz3
            have rQ := (hSz.block Q (Array.getElem?_eq_some_iff.1 HQA.out).1).trans HQA.out
            obtain ⟨⟨q0, q1, q2⟩, _⟩ := row3 rQ
            clear hz3 rQ
            clear hSz
            simp only [List.getElem_toArray, List.getElem_cons_succ, List.getElem_cons_zero]
            go_simp
            exact HK.out _ _ ⟨.slice ay G.length cy, rfl, rfl, HSz.out, Below.refl _ _⟩
          · clear hne
            intro V wz hSz hd
            have f4 := hd _ rfl ⟨4, .data⟩ (by simp) rfl
            have f5 := hd _ rfl ⟨5, .data⟩ (by simp) rfl
            clear hd
            obtain ⟨p4', f4⟩ := f4
            have f4 : V 4 = .slice (some p4') 0 0 := f4
            have f5 : V 5 = .slice ay G.length cy := f5
            refine wpOp_step (o := _) rfl (fun K' hK => ?_)
            have HK := Lib.hid hK
            clear hK
            have HSz := Lib.hid hSz
            have hz3 := HWA.out.trans (hSz.mono HWA.out.size)
            obtain ⟨⟨c0, c1, c2⟩, p0, p1, p2⟩ := bx_on HBx.out hX hP hz3
            have HZ3 := Lib.hid hz3
            have rQ := (hSz.block Q (Array.getElem?_eq_some_iff.1 HQA.out).1).trans HQA.out
            obtain ⟨⟨q0, q1, q2⟩, _⟩ := row3 rQ
            clear hz3 rQ
            clear hSz
            rw [if_pos (by rfl)]
            refine wp_copy (.tmp 33) (.tmp 34) rfl p4' (by simp [Act.eval, f4]) (.slice ay G.length cy) G (by simp [Act.eval, f5]) (ints_on HG.out HZ3.out) (by omega) ?_
            intro v9 w9 hv9 hb9
            exact HK.out _ _ ⟨v9, rfl, hv9, HSz.out.trans (hb9.mono HSz.out.size), hb9⟩
          · clear hne
            intro V wz hSz hd
            clear hd
            refine wpOp_step (o := _) rfl (fun K' hK => ?_)
            have HK := Lib.hid hK
            clear hK
            have HSz := Lib.hid hSz
            have hz3 := HWA.out.trans (hSz.mono HWA.out.size)
            obtain ⟨⟨c0, c1, c2⟩, p0, p1, p2⟩ := bx_on HBx.out hX hP hz3
            have HZ3 := Lib.hid hz3
            have rQ := (hSz.block Q (Array.getElem?_eq_some_iff.1 HQA.out).1).trans HQA.out
            obtain ⟨⟨q0, q1, q2⟩, _⟩ := row3 rQ
            clear hz3 rQ
            clear hSz
            simp only [List.getElem_toArray, List.getElem_cons_succ, List.getElem_cons_zero]
            go_simp
            exact HK.out _ _ ⟨.agg #[.int .i64 (T : Int), .int .i64 (n : Int), .slice a7 vs7.length c7], rfl, rfl, HSz.out, Below.refl _ _⟩
          · clear hne
            intro V wz hSz hd
            have f0 := hd _ rfl ⟨0, .data⟩ (by simp) rfl
            have f3 := hd _ rfl ⟨3, .data⟩ (by simp) rfl
            have f6 := hd _ rfl ⟨6, .data⟩ (by simp) rfl
            have f7 := hd _ rfl ⟨7, .data⟩ (by simp) rfl
            clear hd
            have f0 : V 0 = .agg #[.int .i64 a, .int .i64 b, .string C] := f0
            have f3 : Ints wz (V 3) S := f3
            have HF3 := Lib.hid f3
            clear f3
            have f6 : Ints wz (V 6) G := f6
            have HF6 := Lib.hid f6
            clear f6
            have f7 : V 7 = .agg #[.int .i64 (T : Int), .int .i64 (n : Int), .slice a7 vs7.length c7] := f7
            refine wpOp_step (o := _) rfl (fun K' hK => ?_)
            have HK := Lib.hid hK
            clear hK
            have HSz := Lib.hid hSz
            have hz3 := HWA.out.trans (hSz.mono HWA.out.size)
            obtain ⟨⟨c0, c1, c2⟩, p0, p1, p2⟩ := bx_on HBx.out hX hP hz3
            have HZ3 := Lib.hid hz3
            have rQ := (hSz.block Q (Array.getElem?_eq_some_iff.1 HQA.out).1).trans HQA.out
            obtain ⟨⟨q0, q1, q2⟩, _⟩ := row3 rQ
            clear hz3 rQ
            simp only [List.getElem_toArray, List.getElem_cons_succ, List.getElem_cons_zero]
            go_simp
            go_at_call 15
            refine (HPF.out n (wantV Ws T) _ _ _ wz (Lib.hid (by rw [← HN.out]; exact (plan_faults HD.out).1)) HF3.out HF6.out (waysAt_on HUA.out hSz) HZ3.out).mono ?_
            rintro e w9 ⟨rfl, hb9⟩
            exact HK.out _ _ ⟨_, by simp [updV, f0, f7], rfl, hSz.trans (hb9.mono hSz.size), hb9⟩
        · skip
          have f8 := hFz 8 (by decide) (by decide)
          clear hFz
          have f8 : V 8 = .int .i64 ((wantV Ws T : Nat) : Int) := f8
          refine wpOp_step (o := _) rfl (fun K' hK => ?_)
          have HK := Lib.hid hK
          clear hK
          have HSz := Lib.hid hSz
          clear hSz
          simp only [List.getElem_toArray, List.getElem_cons_succ, List.getElem_cons_zero]
          go_simp
          refine HK.out _ _ ?_
          clear HK K'
          have HB0 := Lib.hid (HWA.out.trans (HSz.out.mono HWA.out.size))
          have HME : Hid (∀ (t : Nat) (u : Value) wr, t < T → WaysAt wr u Ws → Calls Tryz.prog 16 #[u, .int .i64 (t : Int)] wr (Made wr (.bool false))) := Lib.hid fun t u wr ht hu => implMeet u Ws t false (by omega) (by have := HTW.out; omega) (Lib.hid (walk_free HD.out.walk HD.out.s1 (by have := HD.out.s5; omega) ht)) wr hu (wf_small (by omega))
          have HLE : Hid (∀ (t : Nat) (u : Value) wr, t < T → WaysAt wr u Ws → Calls Tryz.prog 17 #[u, .int .i64 (t : Int)] wr (Made wr (.bool true))) := Lib.hid fun t u wr ht hu => implLevel u Ws t true (by omega) (by have := HTW.out; omega) (Lib.hid (walk_lev HD.out.walk HD.out.s1 (by have := HD.out.s5; omega) ht)) wr hu (wf_small (by omega))
          have HRI : Hid (∀ (t r : Nat) (u : Value) wr, t < T → Hid (ringsV Ws (t : Int) = r) → WaysAt wr u Ws → Calls Tryz.prog 18 #[u, .int .i64 (t : Int)] wr (Made wr (.int .i64 (r : Int)))) := Lib.hid fun t r u wr ht hr hu => implRings u Ws t r (by omega) (by have := HTW.out; omega) hr wr hu (wf_small (by omega))
          have HSW : Hid (∀ (t r : Nat) (u : Value) wr, t < T → Hid (swapsV Ws (t : Int) = r) → WaysAt wr u Ws → Calls Tryz.prog 19 #[u, .int .i64 (t : Int)] wr (Made wr (.int .i64 (r : Int)))) := Lib.hid fun t r u wr ht hr hu => implSwaps u Ws t r (by omega) (by have := HTW.out; omega) hr wr hu (wf_small (by omega))
          clear HSz HUA HQA HWA f8
          go_wp2_with fail
          go_loopw [9, 10] (fun qv tv wr => ∃ t : Nat, t ≤ T ∧ qv = .int .i64 ((wantV Ws t : Nat) : Int) ∧ tv = .int .i64 (t : Int) ∧ Below w3.heap.size w3 wr) (fun _ tv _ => T - (intOf tv).toNat)
          case atStart => exact ⟨0, Nat.zero_le _, rfl, rfl, HB0.out⟩
          case round =>
            clear HB0
            obtain ⟨t, ht, rfl, rfl, hbe⟩ := hrel
            have HB0 := Lib.hid hbe
            clear hbe
            by_cases hlt : t < T
            · have hltI : (t : Int) < (T : Int) := by omega
              obtain ⟨q, HQ⟩ : ∃ q, Hid (wantV Ws t = q) := ⟨_, rfl⟩
              obtain ⟨r, HR⟩ : ∃ r, Hid (ringsV Ws (t : Int) = r) := ⟨_, rfl⟩
              obtain ⟨s, HSS⟩ : ∃ s, Hid (swapsV Ws (t : Int) = s) := ⟨_, rfl⟩
              have HWS := Lib.hid (want_succ HR.out HSS.out HQ.out)
              rw [HQ.out]
              obtain ⟨⟨c0, c1, c2⟩, p0, p1, p2⟩ := bx_on HBx.out hX hP HB0.out
              go_wp2_with fail
              refine (HCP.out _ HB0.out).mono ?_
              rintro e x0 ⟨u0, us0, rfl, ho, hb⟩
              obtain ⟨au0, cu0, rfl⟩ := own_form ho.own
              have HU0 := Lib.hid ho.at
              have HB1 := Lib.hid (HB0.out.trans (hb.mono HB0.out.size))
              clear c0 c1 c2 p0 p1 p2 ho hb
              go_wp2_with fail
              refine (HME.out t _ _ hlt HU0.out).mono ?_
              rintro e x1 ⟨rfl, hb⟩
              have HB2 := Lib.hid (HB1.out.trans (hb.mono HB1.out.size))
              clear hb
              obtain ⟨⟨c0, c1, c2⟩, p0, p1, p2⟩ := bx_on HBx.out hX hP HB2.out
              go_wp2_with fail
              refine (HCP.out _ HB2.out).mono ?_
              rintro e x2 ⟨u2, us2, rfl, ho, hb⟩
              obtain ⟨au2, cu2, rfl⟩ := own_form ho.own
              have HU2 := Lib.hid ho.at
              have HB3 := Lib.hid (HB2.out.trans (hb.mono HB2.out.size))
              clear c0 c1 c2 p0 p1 p2 ho hb
              go_wp2_with fail
              refine (HLE.out t _ _ hlt HU2.out).mono ?_
              rintro e x3 ⟨rfl, hb⟩
              have HB4 := Lib.hid (HB3.out.trans (hb.mono HB3.out.size))
              clear hb
              obtain ⟨⟨c0, c1, c2⟩, p0, p1, p2⟩ := bx_on HBx.out hX hP HB4.out
              go_wp2_with fail
              refine (HCP.out _ HB4.out).mono ?_
              rintro e x4 ⟨u4, us4, rfl, ho, hb⟩
              obtain ⟨au4, cu4, rfl⟩ := own_form ho.own
              have HU4 := Lib.hid ho.at
              have HB5 := Lib.hid (HB4.out.trans (hb.mono HB4.out.size))
              clear c0 c1 c2 p0 p1 p2 ho hb
              go_wp2_with fail
              refine (HRI.out t r _ _ hlt HR HU4.out).mono ?_
              rintro e x5 ⟨rfl, hb⟩
              have HB6 := Lib.hid (HB5.out.trans (hb.mono HB5.out.size))
              clear hb
              by_cases hr : 0 < r
              · have hrI : (0 : Int) < (r : Int) := by omega
                by_cases hq : q = 0
                · have hqI : ((q : Int) == 0) = true := by simp [hq]
                  obtain ⟨⟨c0, c1, c2⟩, p0, p1, p2⟩ := bx_on HBx.out hX hP HB6.out
                  go_wp2_with fail
                  refine (HCP.out _ HB6.out).mono ?_
                  rintro e x6 ⟨u6, us6, rfl, ho, hb⟩
                  obtain ⟨au6, cu6, rfl⟩ := own_form ho.own
                  have HU6 := Lib.hid ho.at
                  have HB7 := Lib.hid (HB6.out.trans (hb.mono HB6.out.size))
                  clear c0 c1 c2 p0 p1 p2 ho hb
                  go_wp2_with fail
                  refine (HSW.out t s _ _ hlt HSS HU6.out).mono ?_
                  rintro e x7 ⟨rfl, hb⟩
                  have HB8 := Lib.hid (HB7.out.trans (hb.mono HB7.out.size))
                  clear hb
                  by_cases hs : 0 < s
                  · have hsI : (0 : Int) < (s : Int) := by omega
                    have HV : Hid (wantV Ws (t + 1) = 5) := Lib.hid (by rw [HWS.out, if_pos hs])
                    clear hs
                    go_wp2_with fail
                    go_roundw
                    case rel => exact ⟨t + 1, by omega, by rw [HV.out]; first | done | rfl, by go_num, HB8.out⟩
                    case measure => simp [intOf]; omega
                  · have hsI : ¬ (0 : Int) < (s : Int) := by omega
                    have HV : Hid (wantV Ws (t + 1) = 6) := Lib.hid (by rw [HWS.out, if_neg hs, if_pos ⟨hr, hq⟩])
                    clear hs
                    go_wp2_with fail
                    go_roundw
                    case rel => exact ⟨t + 1, by omega, by rw [HV.out]; first | done | rfl, by go_num, HB8.out⟩
                    case measure => simp [intOf]; omega
                · have hqI : ((q : Int) == 0) = false := by rw [beq_eq_false_iff_ne]; omega
                  obtain ⟨⟨c0, c1, c2⟩, p0, p1, p2⟩ := bx_on HBx.out hX hP HB6.out
                  go_wp2_with fail
                  refine (HCP.out _ HB6.out).mono ?_
                  rintro e x6 ⟨u6, us6, rfl, ho, hb⟩
                  obtain ⟨au6, cu6, rfl⟩ := own_form ho.own
                  have HU6 := Lib.hid ho.at
                  have HB7 := Lib.hid (HB6.out.trans (hb.mono HB6.out.size))
                  clear c0 c1 c2 p0 p1 p2 ho hb
                  go_wp2_with fail
                  refine (HSW.out t s _ _ hlt HSS HU6.out).mono ?_
                  rintro e x7 ⟨rfl, hb⟩
                  have HB8 := Lib.hid (HB7.out.trans (hb.mono HB7.out.size))
                  clear hb
                  by_cases hs : 0 < s
                  · have hsI : (0 : Int) < (s : Int) := by omega
                    have HV : Hid (wantV Ws (t + 1) = 5) := Lib.hid (by rw [HWS.out, if_pos hs])
                    clear hs
                    go_wp2_with fail
                    go_roundw
                    case rel => exact ⟨t + 1, by omega, by rw [HV.out]; first | done | rfl, by go_num, HB8.out⟩
                    case measure => simp [intOf]; omega
                  · have hsI : ¬ (0 : Int) < (s : Int) := by omega
                    have HV : Hid (wantV Ws (t + 1) = q) := Lib.hid (by rw [HWS.out, if_neg hs, if_neg (fun h => hq h.2)])
                    clear hs
                    go_wp2_with fail
                    go_roundw
                    case rel => exact ⟨t + 1, by omega, by rw [HV.out]; first | done | rfl, by go_num, HB8.out⟩
                    case measure => simp [intOf]; omega
              · have hrI : ¬ (0 : Int) < (r : Int) := by omega
                obtain ⟨⟨c0, c1, c2⟩, p0, p1, p2⟩ := bx_on HBx.out hX hP HB6.out
                go_wp2_with fail
                refine (HCP.out _ HB6.out).mono ?_
                rintro e x6 ⟨u6, us6, rfl, ho, hb⟩
                obtain ⟨au6, cu6, rfl⟩ := own_form ho.own
                have HU6 := Lib.hid ho.at
                have HB7 := Lib.hid (HB6.out.trans (hb.mono HB6.out.size))
                clear c0 c1 c2 p0 p1 p2 ho hb
                go_wp2_with fail
                refine (HSW.out t s _ _ hlt HSS HU6.out).mono ?_
                rintro e x7 ⟨rfl, hb⟩
                have HB8 := Lib.hid (HB7.out.trans (hb.mono HB7.out.size))
                clear hb
                by_cases hs : 0 < s
                · have hsI : (0 : Int) < (s : Int) := by omega
                  have HV : Hid (wantV Ws (t + 1) = 5) := Lib.hid (by rw [HWS.out, if_pos hs])
                  clear hs
                  go_wp2_with fail
                  go_roundw
                  case rel => exact ⟨t + 1, by omega, by rw [HV.out]; first | done | rfl, by go_num, HB8.out⟩
                  case measure => simp [intOf]; omega
                · have hsI : ¬ (0 : Int) < (s : Int) := by omega
                  have HV : Hid (wantV Ws (t + 1) = q) := Lib.hid (by rw [HWS.out, if_neg hs, if_neg (fun h => hr h.1)])
                  clear hs
                  go_wp2_with fail
                  go_roundw
                  case rel => exact ⟨t + 1, by omega, by rw [HV.out]; first | done | rfl, by go_num, HB8.out⟩
                  case measure => simp [intOf]; omega
            · obtain rfl : t = T := by omega
              have hnl : ¬ (t : Int) < (t : Int) := by omega
              obtain ⟨⟨c0, c1, c2⟩, p0, p1, p2⟩ := bx_on HBx.out hX hP HB0.out
              go_upto_region 16 with fail
              clear c0 c1 c2 p0 p1 p2
              refine wp_region_inv_last 17 (fun k v w' => match k with | 0 => v = .agg #[.int .i64 a, .int .i64 b, .string C] | 1 => ∃ p, v = .slice (some p) 0 0 | 2 => v = .slice ax S.length cx | 3 => Ints w' v S | 4 => ∃ p, v = .slice (some p) 0 0 | 5 => v = .slice ay G.length cy | 6 => Ints w' v G | 7 => v = .pointer (some ⟨w1.heap.size + 1, 0, none⟩) | 8 => v = .int .i64 (t : Int) | 9 => v = .pointer (some ⟨w1.heap.size + 1, 1, none⟩) | 10 => v = .int .i64 (n : Int) | 11 => v = .int .i64 ((n + 1 : Nat) : Int) | 12 => v = .pointer (some ⟨w1.heap.size + 1, 2, none⟩) | 13 => v = .slice aW Ws.length cW | 14 => ∃ vs, OutW w' w3.heap.size v vs Ws | 15 => ∃ u vs, v = .agg #[.int .i64 (t : Int), .int .i64 ((n + 1 : Nat) : Int), u] ∧ OutW w' w3.heap.size u vs Ws | 16 => v = .int .i64 ((if wantV Ws t = 0 then 8 else wantV Ws t : Nat) : Int) | _ => True) (fun w' => Below w3.heap.size w3 w') (by as_aux_lemma => kernel_rfl) (by as_aux_lemma => kernel_rfl) (by as_aux_lemma => kernel_rfl) (by as_aux_lemma => kernel_rfl) (below_drewN HB0.out 1) ?mono (fun mk hmk => ?main)
              case mono =>
                intro j v wa wb h hb
                match j, h with
                | 0, h => exact h
                | 1, h => exact h
                | 2, h => exact h
                | 3, h => exact ints_on h hb
                | 4, h => exact h
                | 5, h => exact h
                | 6, h => exact ints_on h hb
                | 7, h => exact h
                | 8, h => exact h
                | 9, h => exact h
                | 10, h => exact h
                | 11, h => exact h
                | 12, h => exact h
                | 13, h => exact h
                | 14, ⟨vs, h⟩ => exact ⟨vs, h.onD hb⟩
                | 15, ⟨u, vs, h1, h2⟩ => exact ⟨u, vs, h1, h2.onD hb⟩
                | 16, h => exact h
                | k + 17, h => exact trivial
              case main =>
                simp only [putsL, Nat.reduceAdd, Act.put, List.setIfInBounds_toArray, List.set_cons_zero, List.set_cons_succ] at hmk
                subst hmk
                refine ⟨⟨fun _ => undef, rfl⟩, fun i hi hne => ?_, fun V wz hSz hFz => ?_⟩
                · have hi2 : i < 18 := hi
                  have hcase : i = 0 ∨ i = 1 ∨ i = 2 ∨ i = 3 ∨ i = 4 ∨ i = 5 ∨ i = 6 ∨ i = 7 ∨ i = 8 ∨ i = 9 ∨ i = 10 ∨ i = 11 ∨ i = 12 ∨ i = 13 ∨ i = 14 ∨ i = 15 ∨ i = 16 := by omega
                  clear hi hi2
                  rcases hcase with rfl | rfl | rfl | rfl | rfl | rfl | rfl | rfl | rfl | rfl | rfl | rfl | rfl | rfl | rfl | rfl | rfl
                  · clear hne
                    intro V wz hSz hd
                    clear hd
                    refine wpOp_step (o := _) rfl (fun K' hK => ?_)
                    have HK := Lib.hid hK
                    clear hK
                    have HSz := Lib.hid hSz
                    obtain ⟨⟨c0, c1, c2⟩, p0, p1, p2⟩ := bx_on HBx.out hX hP hSz
                    clear hSz
                    simp only [List.getElem_toArray, List.getElem_cons_zero]
                    go_simp
                    exact HK.out _ _ ⟨.agg #[.int .i64 a, .int .i64 b, .string C], rfl, rfl, HSz.out, Below.refl _ _⟩
                  · clear hne
                    intro V wz hSz hd
                    clear hd
                    refine wpOp_step (o := _) rfl (fun K' hK => ?_)
                    have HK := Lib.hid hK
                    clear hK
                    have HSz := Lib.hid hSz
                    obtain ⟨⟨c0, c1, c2⟩, p0, p1, p2⟩ := bx_on HBx.out hX hP hSz
                    clear hSz
                    simp only [List.getElem_toArray, List.getElem_cons_succ, List.getElem_cons_zero]
                    go_simp
                    exact HK.out _ _ ⟨_, rfl, ⟨_, rfl⟩, HSz.out.alloc HSz.out.size _, (Below.refl _ _).alloc (Nat.le_refl _) _⟩
                  · clear hne
                    intro V wz hSz hd
                    clear hd
                    refine wpOp_step (o := _) rfl (fun K' hK => ?_)
                    have HK := Lib.hid hK
                    clear hK
                    have HSz := Lib.hid hSz
                    obtain ⟨⟨c0, c1, c2⟩, p0, p1, p2⟩ := bx_on HBx.out hX hP hSz
                    clear hSz
                    simp only [List.getElem_toArray, List.getElem_cons_succ, List.getElem_cons_zero]
                    go_simp
                    exact HK.out _ _ ⟨.slice ax S.length cx, rfl, rfl, HSz.out, Below.refl _ _⟩
                  · clear hne
                    intro V wz hSz hd
                    have f1 := hd _ rfl ⟨1, .data⟩ (by simp) rfl
                    have f2 := hd _ rfl ⟨2, .data⟩ (by simp) rfl
                    clear hd
                    obtain ⟨p1', f1⟩ := f1
                    have f1 : V 1 = .slice (some p1') 0 0 := f1
                    have f2 : V 2 = .slice ax S.length cx := f2
                    refine wpOp_step (o := _) rfl (fun K' hK => ?_)
                    have HK := Lib.hid hK
                    clear hK
                    have HSz := Lib.hid hSz
                    obtain ⟨⟨c0, c1, c2⟩, p0, p1, p2⟩ := bx_on HBx.out hX hP hSz
                    rw [if_pos (by rfl)]
                    refine wp_copy (.tmp 74) (.tmp 75) rfl p1' (by simp [Act.eval, f1]) (.slice ax S.length cx) S (by simp [Act.eval, f2]) (ints_on HS.out hSz) (by omega) ?_
                    intro v9 w9 hv9 hb9
                    exact HK.out _ _ ⟨v9, rfl, hv9, hSz.trans (hb9.mono hSz.size), hb9⟩
                  · clear hne
                    intro V wz hSz hd
                    clear hd
                    refine wpOp_step (o := _) rfl (fun K' hK => ?_)
                    have HK := Lib.hid hK
                    clear hK
                    have HSz := Lib.hid hSz
                    obtain ⟨⟨c0, c1, c2⟩, p0, p1, p2⟩ := bx_on HBx.out hX hP hSz
                    clear hSz
                    simp only [List.getElem_toArray, List.getElem_cons_succ, List.getElem_cons_zero]
                    go_simp
                    exact HK.out _ _ ⟨_, rfl, ⟨_, rfl⟩, HSz.out.alloc HSz.out.size _, (Below.refl _ _).alloc (Nat.le_refl _) _⟩
                  · clear hne
                    intro V wz hSz hd
                    clear hd
                    refine wpOp_step (o := _) rfl (fun K' hK => ?_)
                    have HK := Lib.hid hK
                    clear hK
                    have HSz := Lib.hid hSz
                    obtain ⟨⟨c0, c1, c2⟩, p0, p1, p2⟩ := bx_on HBx.out hX hP hSz
                    clear hSz
                    simp only [List.getElem_toArray, List.getElem_cons_succ, List.getElem_cons_zero]
                    go_simp
                    exact HK.out _ _ ⟨.slice ay G.length cy, rfl, rfl, HSz.out, Below.refl _ _⟩
                  · clear hne
                    intro V wz hSz hd
                    have f4 := hd _ rfl ⟨4, .data⟩ (by simp) rfl
                    have f5 := hd _ rfl ⟨5, .data⟩ (by simp) rfl
                    clear hd
                    obtain ⟨p4', f4⟩ := f4
                    have f4 : V 4 = .slice (some p4') 0 0 := f4
                    have f5 : V 5 = .slice ay G.length cy := f5
                    refine wpOp_step (o := _) rfl (fun K' hK => ?_)
                    have HK := Lib.hid hK
                    clear hK
                    have HSz := Lib.hid hSz
                    obtain ⟨⟨c0, c1, c2⟩, p0, p1, p2⟩ := bx_on HBx.out hX hP hSz
                    rw [if_pos (by rfl)]
                    refine wp_copy (.tmp 77) (.tmp 78) rfl p4' (by simp [Act.eval, f4]) (.slice ay G.length cy) G (by simp [Act.eval, f5]) (ints_on HG.out hSz) (by omega) ?_
                    intro v9 w9 hv9 hb9
                    exact HK.out _ _ ⟨v9, rfl, hv9, hSz.trans (hb9.mono hSz.size), hb9⟩
                  · clear hne
                    intro V wz hSz hd
                    clear hd
                    refine wpOp_step (o := _) rfl (fun K' hK => ?_)
                    have HK := Lib.hid hK
                    clear hK
                    have HSz := Lib.hid hSz
                    obtain ⟨⟨c0, c1, c2⟩, p0, p1, p2⟩ := bx_on HBx.out hX hP hSz
                    clear hSz
                    simp only [List.getElem_toArray, List.getElem_cons_succ, List.getElem_cons_zero]
                    go_simp
                    exact HK.out _ _ ⟨.pointer (some ⟨w1.heap.size + 1, 0, none⟩), rfl, rfl, HSz.out, Below.refl _ _⟩
                  · clear hne
                    intro V wz hSz hd
                    have f7 := hd _ rfl ⟨7, .data⟩ (by simp) rfl
                    clear hd
                    have f7 : V 7 = .pointer (some ⟨w1.heap.size + 1, 0, none⟩) := f7
                    refine wpOp_step (o := _) rfl (fun K' hK => ?_)
                    have HK := Lib.hid hK
                    clear hK
                    have HSz := Lib.hid hSz
                    obtain ⟨⟨c0, c1, c2⟩, p0, p1, p2⟩ := bx_on HBx.out hX hP hSz
                    clear hSz
                    simp only [List.getElem_toArray, List.getElem_cons_succ, List.getElem_cons_zero]
                    go_simp
                    exact HK.out _ _ ⟨.int .i64 (t : Int), by simp [updV, f7], rfl, HSz.out, Below.refl _ _⟩
                  · clear hne
                    intro V wz hSz hd
                    clear hd
                    refine wpOp_step (o := _) rfl (fun K' hK => ?_)
                    have HK := Lib.hid hK
                    clear hK
                    have HSz := Lib.hid hSz
                    obtain ⟨⟨c0, c1, c2⟩, p0, p1, p2⟩ := bx_on HBx.out hX hP hSz
                    clear hSz
                    simp only [List.getElem_toArray, List.getElem_cons_succ, List.getElem_cons_zero]
                    go_simp
                    exact HK.out _ _ ⟨.pointer (some ⟨w1.heap.size + 1, 1, none⟩), rfl, rfl, HSz.out, Below.refl _ _⟩
                  · clear hne
                    intro V wz hSz hd
                    have f9 := hd _ rfl ⟨9, .data⟩ (by simp) rfl
                    clear hd
                    have f9 : V 9 = .pointer (some ⟨w1.heap.size + 1, 1, none⟩) := f9
                    refine wpOp_step (o := _) rfl (fun K' hK => ?_)
                    have HK := Lib.hid hK
                    clear hK
                    have HSz := Lib.hid hSz
                    obtain ⟨⟨c0, c1, c2⟩, p0, p1, p2⟩ := bx_on HBx.out hX hP hSz
                    clear hSz
                    simp only [List.getElem_toArray, List.getElem_cons_succ, List.getElem_cons_zero]
                    go_simp
                    exact HK.out _ _ ⟨.int .i64 (n : Int), by simp [updV, f9], rfl, HSz.out, Below.refl _ _⟩
                  · clear hne
                    intro V wz hSz hd
                    have f10 := hd _ rfl ⟨10, .data⟩ (by simp) rfl
                    clear hd
                    have f10 : V 10 = .int .i64 (n : Int) := f10
                    refine wpOp_step (o := _) rfl (fun K' hK => ?_)
                    have HK := Lib.hid hK
                    clear hK
                    have HSz := Lib.hid hSz
                    obtain ⟨⟨c0, c1, c2⟩, p0, p1, p2⟩ := bx_on HBx.out hX hP hSz
                    have hwn : IntKind.i64.wrap ((n : Int) + 1) = ((n + 1 : Nat) : Int) := by rw [IntWalk.i64_in _ (by omega)]; omega
                    clear hSz
                    simp only [List.getElem_toArray, List.getElem_cons_succ, List.getElem_cons_zero]
                    go_simp
                    exact HK.out _ _ ⟨.int .i64 ((n + 1 : Nat) : Int), by simp [updV, f10], rfl, HSz.out, Below.refl _ _⟩
                  · clear hne
                    intro V wz hSz hd
                    clear hd
                    refine wpOp_step (o := _) rfl (fun K' hK => ?_)
                    have HK := Lib.hid hK
                    clear hK
                    have HSz := Lib.hid hSz
                    obtain ⟨⟨c0, c1, c2⟩, p0, p1, p2⟩ := bx_on HBx.out hX hP hSz
                    clear hSz
                    simp only [List.getElem_toArray, List.getElem_cons_succ, List.getElem_cons_zero]
                    go_simp
                    exact HK.out _ _ ⟨.pointer (some ⟨w1.heap.size + 1, 2, none⟩), rfl, rfl, HSz.out, Below.refl _ _⟩
                  · clear hne
                    intro V wz hSz hd
                    have f12 := hd _ rfl ⟨12, .data⟩ (by simp) rfl
                    clear hd
                    have f12 : V 12 = .pointer (some ⟨w1.heap.size + 1, 2, none⟩) := f12
                    refine wpOp_step (o := _) rfl (fun K' hK => ?_)
                    have HK := Lib.hid hK
                    clear hK
                    have HSz := Lib.hid hSz
                    obtain ⟨⟨c0, c1, c2⟩, p0, p1, p2⟩ := bx_on HBx.out hX hP hSz
                    clear hSz
                    simp only [List.getElem_toArray, List.getElem_cons_succ, List.getElem_cons_zero]
                    go_simp
                    exact HK.out _ _ ⟨.slice aW Ws.length cW, by simp [updV, f12], rfl, HSz.out, Below.refl _ _⟩
                  · clear hne
                    intro V wz hSz hd
                    have f13 := hd _ rfl ⟨13, .data⟩ (by simp) rfl
                    clear hd
                    have f13 : V 13 = .slice aW Ws.length cW := f13
                    refine wpOp_step (o := _) rfl (fun K' hK => ?_)
                    have HK := Lib.hid hK
                    clear hK
                    have HSz := Lib.hid hSz
                    obtain ⟨⟨c0, c1, c2⟩, p0, p1, p2⟩ := bx_on HBx.out hX hP hSz
                    simp only [List.getElem_toArray, List.getElem_cons_succ, List.getElem_cons_zero]
                    go_simp
                    go_at_call 9
                    refine (HCP.out wz hSz).mono ?_
                    rintro e w9 ⟨v9, vs9, rfl, ho9, hb9⟩
                    exact HK.out _ _ ⟨v9, by simp [updV, f13], ⟨vs9, ho9.baseD hSz.size⟩, hSz.trans (hb9.mono hSz.size), hb9⟩
                  · clear hne
                    intro V wz hSz hd
                    have f8 := hd _ rfl ⟨8, .data⟩ (by simp) rfl
                    have f11 := hd _ rfl ⟨11, .data⟩ (by simp) rfl
                    have f14 := hd _ rfl ⟨14, .data⟩ (by simp) rfl
                    clear hd
                    have f8 : V 8 = .int .i64 (t : Int) := f8
                    have f11 : V 11 = .int .i64 ((n + 1 : Nat) : Int) := f11
                    obtain ⟨vs6, g6⟩ := f14
                    have HG6 := Lib.hid g6
                    obtain ⟨u6, c6, f14⟩ := own_form g6.own
                    clear g6
                    refine wpOp_step (o := _) rfl (fun K' hK => ?_)
                    have HK := Lib.hid hK
                    clear hK
                    have HSz := Lib.hid hSz
                    obtain ⟨⟨c0, c1, c2⟩, p0, p1, p2⟩ := bx_on HBx.out hX hP hSz
                    clear hSz
                    simp only [List.getElem_toArray, List.getElem_cons_succ, List.getElem_cons_zero]
                    go_simp
                    exact HK.out _ _ ⟨.agg #[.int .i64 (t : Int), .int .i64 ((n + 1 : Nat) : Int), .slice u6 vs6.length c6], by simp [updV, f8, f11, f14], ⟨_, _, rfl, (by rw [← f14]; exact HG6.out)⟩, HSz.out, Below.refl _ _⟩
                  · clear hne
                    intro V wz hSz hd
                    have f0 := hd _ rfl ⟨0, .data⟩ (by simp) rfl
                    have f3 := hd _ rfl ⟨3, .data⟩ (by simp) rfl
                    have f6 := hd _ rfl ⟨6, .data⟩ (by simp) rfl
                    have f15 := hd _ rfl ⟨15, .data⟩ (by simp) rfl
                    clear hd
                    have f0 : V 0 = .agg #[.int .i64 a, .int .i64 b, .string C] := f0
                    have f3 : Ints wz (V 3) S := f3
                    have HF3 := Lib.hid f3
                    clear f3
                    have f6 : Ints wz (V 6) G := f6
                    have HF6 := Lib.hid f6
                    clear f6
                    obtain ⟨u15, vs15, f15, g15⟩ := f15
                    have f15 : V 15 = .agg #[.int .i64 (t : Int), .int .i64 ((n + 1 : Nat) : Int), u15] := f15
                    have HG15 := Lib.hid g15.at
                    clear g15
                    refine wpOp_step (o := _) rfl (fun K' hK => ?_)
                    have HK := Lib.hid hK
                    clear hK
                    have HSz := Lib.hid hSz
                    obtain ⟨⟨c0, c1, c2⟩, p0, p1, p2⟩ := bx_on HBx.out hX hP hSz
                    simp only [List.getElem_toArray, List.getElem_cons_succ, List.getElem_cons_zero]
                    go_simp
                    go_at_call 15
                    refine (HPF.out (n + 1) (if wantV Ws t = 0 then 8 else wantV Ws t) _ _ _ wz (Lib.hid (by rw [← HN.out]; exact (plan_faults HD.out).2)) HF3.out HF6.out HG15.out hSz).mono ?_
                    rintro e w9 ⟨rfl, hb9⟩
                    exact HK.out _ _ ⟨_, by simp [updV, f0, f15], rfl, hSz.trans (hb9.mono hSz.size), hb9⟩
                · skip
                  have f16 := hFz 16 (by decide) (by decide)
                  clear hFz
                  have f16 : V 16 = .int .i64 ((if wantV Ws t = 0 then 8 else wantV Ws t : Nat) : Int) := f16
                  refine wpOp_step (o := _) rfl (fun K' hK => ?_)
                  have HK := Lib.hid hK
                  clear hK
                  have HSz := Lib.hid hSz
                  clear hSz
                  simp only [List.getElem_toArray, List.getElem_cons_succ, List.getElem_cons_zero]
                  go_simp
                  refine HK.out _ _ ?_
                  clear HK K'
                  have HE := Lib.hid (HB3.out.trans (HSz.out.mono HB3.out.size))
                  obtain ⟨q, HQ⟩ : ∃ q, Hid (wantV Ws t = q) := ⟨_, rfl⟩
                  rw [HQ.out]
                  clear HSz f16 hnl hlt
                  by_cases hq : q = 0
                  · have hqI : ((q : Int) == 0) = true := by simp [hq]
                    rw [if_pos hq]
                    clear hq
                    go_wp2_with fail
                    go_ret
                    exact ⟨by simp, HE.out⟩
                  · have hqI : ((q : Int) == 0) = false := by rw [beq_eq_false_iff_ne]; omega
                    have hqq : ((q : Int) == (q : Int)) = true := by simp
                    rw [if_neg hq]
                    clear hq
                    go_wp2_with fail
                    go_ret
                    exact ⟨by simp, HE.out⟩

set_option maxRecDepth 100000 in
theorem walk_big (N : Nat) (v : Value) (hN : N ≤ maxLen) (w : World) (hc : CodeB w v N w.heap.size) (h : 1048576 < N) :
    Calls Tryz.prog 4 #[v] w fun e w' => e = .returned (.bool true) ∧ Below w.heap.size w w' := by
  go_enter Tryz.func4, Tryz.ntmps4
  go_wp2_with fail
  refine (bigYes N _ v w hN hc h).mono ?_
  rintro e w' ⟨rfl, rfl⟩
  go_wp2_with fail
  go_ret
  exact ⟨rfl, Below.refl _ _⟩

theorem walkL (v : Value) (N : Nat) (w : World) (hc : CodeB w v N w.heap.size) (hN : N ≤ maxLen) (hl : laidMetH Tryz.prog Rows.fnPlansRow.laid w) :
    Calls Tryz.prog 4 #[v] w fun e w' => e = .returned (.bool true) ∧ Below w.heap.size w w' := by
  rcases Nat.lt_or_ge 1048576 N with h | h
  · exact walk_big N v hN w hc h
  · exact walk_in N v h w hc (both_of_laid hl).1 (both_of_laid hl).2
-- LIFT
set_option maxRecDepth 100000 in
theorem lifted (os : Os) (started : os.Started) (H : Type) (enc : TypeId × Value → H) :
    ReturnsInHanded {} Tryz.checked os 4 .any (fun w args => (Rows.fnPlansSpec.pre enc Tryz.prog Tryz.f4 [] false w args ∧ laidMetH Tryz.prog Rows.fnPlansRow.laid w) ∧ sizedMet enc Tryz.prog Tryz.f4 (OpenSpec.ofChange Rows.fnPlansSpec) false w args)
      (Rows.fnPlansSpec.post enc Tryz.prog Tryz.f4 false true false false) := by
  refine returnsInHanded_of_change_and (C := Tryz.checked) (X := fun w _ => laidMetH Tryz.prog Rows.fnPlansRow.laid w) (fun _ _ _ hh h => h.of_heap hh) own started (by kernel_rfl) Tryz.func4
    (ChangeSpec.witness_shaped (enc := enc) (C := Tryz.checked) (os := os) (X := fun w _ => laidMetH Tryz.prog Rows.fnPlansRow.laid w) false (World.doorLaid Tryz.prog 400 os) #[.slice none 0 0] 8 rfl (World.shaped_of_RefB (by kernel_rfl) (by kernel_rfl)) (by kernel_rfl) (by kernel_rfl) (by kernel_rfl) (both_met os _)) ?_
  intro W base args ds gs before hval0 hW _ hsz0 hL _
  have hsz : (DataW.weightsEach Tryz.prog (Tryz.f4.params.toList ++ Rows.fnPlansSpec.plain.varTypes Tryz.prog) (ds ++ gs)).all (· ≤ reachBytes) = true := hsz0
  clear hsz0
  have hval : ∀ (j : Nat) t v, Tryz.f4.params[j]? = some t → args[j]? = some v → Value.okWide Tryz.prog W .any base t v := hval0
  have hW' := hW
  obtain ⟨p, q, hA0, hV, rfl, hfz, hnd⟩ := hW
  have hA : DataW.TrodAll enc Tryz.prog W 0 (fun _ => true) true Tryz.f4.params.toList args.toList ds p := hA0
  rw [Tryz.params4] at hA hval hsz
  obtain ⟨v0, vs0, d0, ds0, p0, q0, hargs, rfl, rfl, h0, r0⟩ := trodAll_cons hA
  obtain ⟨rfl, rfl, rfl⟩ := trodAll_nil r0
  obtain rfl : args = #[v0] := by cases args; simp_all
  have hs0 := (both_of_laid hL).1
  obtain ⟨rfl, _⟩ := sides_vars hs0 hs0 hV
  obtain ⟨L0, w0, l0, again0⟩ := open_arg_bytes (hval 0 22 v0 rfl rfl) h0
  clear hA0 hval0 hsz
  simp only [List.append_nil] at hW'
  refine (walkL v0 L0 W w0 l0 hL).mono fun e W' ⟨he, hg⟩ => ?_
  subst he
  obtain ⟨_, hvs⟩ := sides_vars hs0 (hs0.below hg) hV
  exact ⟨_, rfl, post_of_below (pa := p0 ++ ([])) (pv := q) hW' (fun _ _ _ => (trodAll_cons_mk (shut_bool Tryz.underlying4 _) trodAll_mk0)) (fun sp hsp => (trodAll_cons_mk (again0 W' hg sp (fun p hp => hsp p (by simp [hp]))) trodAll_mk0)) (fun sp _ => hvs sp) (by simp)
    hg (ok_one (by kernel_rfl) rfl (okWide_bool_mk Tryz.underlying4 _))⟩

theorem said : Rows.FnPlansSaid :=
  OpenClaim.holds_of_wide 4 Tryz.f4 rfl rfl rfl rfl rfl rfl rfl ⟨rfl, rfl, rfl, rfl, rfl⟩ rfl rfl rfl rfl rfl (by kernel_rfl) Tryz.func4 (by kernel_rfl)
    (of_decide_eq_true (by kernel_rfl)) (by unfold Func.isWrapper; first | (rw [if_pos (by decide +kernel)]; kernel_rfl) | (rw [if_neg (by decide +kernel)]; exact ⟨rfl, rfl⟩))
    (fun os started H enc _ => lifted os started H enc)

theorem plain (f : FuncId) (fn : Func) (hf : Tryz.pinned.checked.prog.funcNamed "loop.example/g00961/laws.FnPlans" = some f) (hfn : Tryz.pinned.checked.prog.funcs[f]? = some fn) :
    Rows.fnPlansCard.stood.looks = Tryz.pinned.checked.prog.looks [] ∧ ∀ (j : Nat) t, fn.params[j]? = some t → Tryz.pinned.checked.prog.wantsStandIn t = false := by
  obtain rfl : f = 4 := Option.some.inj ((show Tryz.prog.funcNamed "loop.example/g00961/laws.FnPlans" = some 4 by kernel_rfl).symm.trans hf) |>.symm
  obtain rfl : fn = Tryz.f4 := (Option.some.inj (Tryz.func4.symm.trans hfn)).symm
  refine ⟨by kernel_rfl, fun j t ht => ?_⟩
  rw [Tryz.params4] at ht
  have hm : t ∈ [22] := by simpa using Array.mem_of_getElem? ht
  have hall : ([22].all fun u => !Tryz.prog.wantsStandIn u) = true := by kernel_rfl
  exact (show Tryz.prog.wantsStandIn t = false by simpa using List.all_eq_true.1 hall t hm)

theorem proved : Rows.FnPlansCardSaid :=
  Claim7.holds_tied_plain_at .later [] _ _ _ _ said (fun _ h => by cases h) (by kernel_rfl) (fun _ h => by cases h) fnPlans_row_tie rfl ⟨rfl, rfl⟩ (by kernel_rfl) rfl plain (by kernel_rfl)

end Go.Proofs.YtkbfbifepaoojaaGreatDoor.fnPlans

