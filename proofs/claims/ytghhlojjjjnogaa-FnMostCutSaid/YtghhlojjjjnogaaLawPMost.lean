/-
  THE LAW FnMostCut: the most that goes through a drawn network is what one cut lets through; no drawn cut lets less through, no drawn flow is more. For every input.
-/
import Derived.Test.YtghhlojjjjnogaaDrawCut
import Derived.Test.YtghhlojjjjnogaaDrawP
import Derived.Test.YtghhlojjjjnogaaDrawMost
import Derived.Test.YtghhlojjjjnogaaMostI
import Derived.Test.YtghhlojjjjnogaaCutI
import Derived.Test.YtghhlojjjjnogaaStopI
import Derived.Test.YtghhlojjjjnogaaReachedI
import Derived.Test.YtghhlojjjjnogaaSpecSize
import Derived.Test.YtghhlojjjjnogaaSameBools
import Derived.Test.YtghhlojjjjnogaaArgBytes
import Derived.Test.YtghhlojjjjnogaaCodeOf
import Derived.Test.YtghhlojjjjnogaaArgCopy
import Derived.Test.YtghhlojjjjnogaaArgCopyB
import Derived.Deep.RegionHeld3
import Derived.IntWalk
import Derived.Lib.SmallJoins
namespace Go.Proofs.Ytghhlojjjjnogaa.fnMostCut
set_option maxRecDepth 4096
open Go.ChangeShapes Go.WideShapes Go.ChangeAt Go.RowKit Go.Joins

theorem bigYes (N g : Nat) (B : Nat → Int) (v : Value) (w : World) (hN : N ≤ maxLen) (hc : CodeF w v N B g) (h : 1048576 < N) : Calls Try.prog 7 #[v] w fun e w' => e = .returned (.bool true) ∧ w = w' := by
  obtain ⟨a, c, rfl, _⟩ := hc
  have hN2 : N ≤ 9223372036854775807 := by unfold maxLen at hN; omega
  have hd : (1048576 : Int) < (N : Int) := by omega
  go_enter Try.func7, Try.ntmps7
  go_wp2
  go_ret
  exact ⟨rfl, rfl⟩
theorem bigNo (N g : Nat) (B : Nat → Int) (v : Value) (w : World) (hc : CodeF w v N B g) (h : N ≤ 1048576) : Calls Try.prog 7 #[v] w fun e w' => e = .returned (.bool false) ∧ w = w' := by
  obtain ⟨a, c, rfl, _⟩ := hc
  have hd : ¬ (1048576 : Int) < (N : Int) := by omega
  go_enter Try.func7, Try.ntmps7
  go_wp2
  go_ret
  exact ⟨rfl, rfl⟩

/-- What lies in the law's own memory. -/
structure CS (M : Nat) (A : List ArcD) (w : World) (X : Nat) (na vs : Value) (os : Nat → Bool) (vc : Value) (oc : Nat → Bool) (vf : Value) (F : List Int) (vg : Value) (G : List Int) (wx : World) : Prop where
  below : Below w.heap.size w wx
  boxn : wx.heap[X]? = some (.cells #[.int .i64 (M : Int), na] 26)
  arcn : Arcs wx na A
  side : Bools wx vs os M
  cut : Bools wx vc oc M
  flow : Ints wx vf F
  full : Ints wx vg G
section
variable {M X : Nat} {A : List ArcD} {w wx wy : World} {na vs vc vf vg : Value} {os oc : Nat → Bool} {F G : List Int}
theorem CS.on (h : CS M A w X na vs os vc oc vf F vg G wx) (hb : Below wx.heap.size wx wy) : CS M A w X na vs os vc oc vf F vg G wy :=
  ⟨h.below.trans (hb.mono h.below.size), (hb.block _ (Array.getElem?_eq_some_iff.1 h.boxn).1).trans h.boxn, arcs_on h.arcn hb, bools_on h.side hb, bools_on h.cut hb, ints_on h.flow hb, ints_on h.full hb⟩
theorem CS.cells (h : CS M A w X na vs os vc oc vf F vg G wx) : wx.cell? ⟨X, 0, none⟩ = some (.int .i64 (M : Int)) ∧ wx.cell? ⟨X, 1, none⟩ = some na :=
  ⟨(cell_of_row wx X 0 _ _ _ h.boxn).trans rfl, (cell_of_row wx X 1 _ _ _ h.boxn).trans rfl⟩
theorem CS.held (h : CS M A w X na vs os vc oc vf F vg G wx) (hb : Below wx.heap.size wx wy) : wy.cell? ⟨X, 0, none⟩ = some (.int .i64 (M : Int)) ∧ wy.cell? ⟨X, 1, none⟩ = some na ∧ CS M A w X na vs os vc oc vf F vg G wy :=
  have h2 := h.on hb
  ⟨h2.cells.1, h2.cells.2, h2⟩
end
theorem carry {w w1 : World} {v : Value} {L : List Int} {Q : Prop} (h : Ints w v L) (hb : Below w.heap.size w w1) (k : Ints w1 v L → Q) : Q := k (ints_on h hb)
theorem ints_drew {w : World} {v : Value} {L : List Int} (h : Ints w v L) : Ints w.drew v L := ints_on h (Below.refl w.heap.size w).drew
theorem ints_alloc {w : World} {v : Value} {L : List Int} (o : Obj) (h : Ints w v L) : Ints (w.alloc o) v L := ints_on h ((Below.refl w.heap.size w).alloc (Nat.le_refl _) o)
theorem carryB {w w1 : World} {v : Value} {o : Nat → Bool} {n : Nat} {Q : Prop} (h : Bools w v o n) (hb : Below w.heap.size w w1) (k : Bools w1 v o n → Q) : Q := k (bools_on h hb)
theorem bools_drew {w : World} {v : Value} {o : Nat → Bool} {n : Nat} (h : Bools w v o n) : Bools w.drew v o n := bools_on h (Below.refl w.heap.size w).drew
theorem bools_alloc {w : World} {v : Value} {o : Nat → Bool} {n : Nat} (b : Obj) (h : Bools w v o n) : Bools (w.alloc b) v o n := bools_on h ((Below.refl w.heap.size w).alloc (Nat.le_refl _) b)

set_option maxRecDepth 100000 in
set_option maxHeartbeats 8000000 in
theorem walk_in (N : Nat) (B : Nat → Int) (v : Value) (hN : N ≤ 1048576) (w : World) (hc : CodeF w v N B w.heap.size) :
    Calls Try.prog 4 #[v] w fun e w' => e = .returned (.bool true) ∧ Below w.heap.size w w' := by
  have HC := Lib.hid hc
  obtain ⟨hnet, hA18⟩ := dp_ok N B
  obtain ⟨hflow, _⟩ := pushed_ok hnet (dpK N B)
  have hF : flowOkV (dpM N B) (dpA N B) (dpF N B) = true := hflow
  obtain ⟨hG, hG1⟩ := dpG_ok N B
  go_enter Try.func4, Try.ntmps4
  go_wp2_with fail
  refine (bigNo N _ B v w hc hN).mono ?_
  rintro e w' ⟨rfl, rfl⟩
  clear hc hflow
  go_wp2_with fail
  refine (drawCut N B v w (by omega) HC.out).mono ?_
  rintro e w1 ⟨na, vs, os, rfl, ha, hs, hos0, hos1, hb⟩
  obtain ⟨an, cn, rfl, _⟩ := arcs_form ha
  obtain ⟨a0, cs, rfl, _⟩ := id hs
  have hb2 := (Below.refl w1.heap.size w1).alloc (Nat.le_refl _) (.cells #[.int .i64 (dpM N B : Int), .slice an (dpA N B).length cn] 26)
  have HB2 := Lib.hid (hb.trans (hb2.mono hb.size))
  have HA2 := Lib.hid (arcs_on ha hb2)
  have HS2 := Lib.hid (bools_on hs hb2)
  have HX2 := Lib.hid (heap_alloc_new w1 (.cells #[.int .i64 (dpM N B : Int), .slice an (dpA N B).length cn] 26))
  have hcw := Lib.hid ((HC.out.below (Below.mk HB2.out.os HB2.out.tape HB2.out.output HB2.out.size HB2.out.block)).up HB2.out.size)
  have HO0 := Lib.hid hos0
  have HO1 := Lib.hid hos1
  clear ha hs hb hb2 hos0 hos1
  go_wp2_with fail
  generalize w1.alloc (.cells #[.int .i64 (dpM N B : Int), .slice an (dpA N B).length cn] 26) = w2 at HB2 HA2 HS2 HX2 hcw ⊢
  generalize w1.heap.size = X at HX2 ⊢
  refine (drawP N B v w2 (by omega) hcw.out).mono ?_
  rintro e w3 ⟨nb, vf, rfl, ha, hf, hb⟩
  obtain ⟨am, cm, rfl, _⟩ := arcs_form ha
  obtain ⟨af, cf, rfl, _⟩ := ints_form hf
  have hb2 := (Below.refl w3.heap.size w3).alloc (Nat.le_refl _) (.cells #[.int .i64 (dpM N B : Int), .slice am (dpA N B).length cm] 26)
  have hb23 := hb.trans (hb2.mono hb.size)
  have HB4 := Lib.hid (HB2.out.trans (hb23.mono HB2.out.size))
  have HA4 := Lib.hid (arcs_on HA2.out hb23)
  have HS4 := Lib.hid (bools_on HS2.out hb23)
  have HX4 := Lib.hid ((hb23.block _ (Array.getElem?_eq_some_iff.1 HX2.out).1).trans HX2.out)
  have HF4 := Lib.hid (ints_on hf hb2)
  clear ha hf hb hb2 hb23 HB2 HA2 HS2 HX2 hcw
  obtain ⟨⟨hM2, hM15⟩, _, _⟩ := netOk_out hnet
  obtain ⟨z, HZ⟩ : ∃ z, Hid (mostS (dpM N B) (dpA N B) = z) := ⟨_, rfl⟩
  obtain ⟨oc, HO⟩ : ∃ o, Hid (mostO (dpM N B) (dpA N B) = o) := ⟨_, rfl⟩
  have HM : Hid (mostN (dpM N B) (dpA N B) = dpM N B) := Lib.hid (by unfold mostN; rw [if_pos hnet, Int.toNat_natCast])
  obtain ⟨e1, e2⟩ := most_is hG hG1
  rw [HZ.out] at e1
  rw [HO.out] at e2
  have HOG := Lib.hid e2
  have hz0 : 0 ≤ z := by
    have h := stop_most hG hG1 (zero_ok hnet)
    rw [netO_zero, e1] at h
    exact h
  have hc0 : oc 0 = true := by rw [← e2]; exact reached0
  have hc1 : oc 1 = false := by rw [← e2]; exact hG1
  have hoc : cutOkV (dpM N B) (dpA N B) oc (dpM N B) = true := cut_yes hnet rfl hc0 hc1
  have hos : cutOkV (dpM N B) (dpA N B) os (dpM N B) = true := cut_yes hnet rfl HO0.out HO1.out
  have HOC := Lib.hid hoc
  have HOS := Lib.hid hos
  have HRC : Hid (cutRoomV (dpM N B) (dpA N B) oc (dpM N B) = z) := Lib.hid (by unfold cutRoomV; rw [if_pos hoc, ← e1, ← e2]; exact (stop_size hG hG1).symm)
  obtain ⟨zs, HRS⟩ : ∃ z, Hid (cutRoomV (dpM N B) (dpA N B) os (dpM N B) = z) := ⟨_, rfl⟩
  have hzs : z ≤ zs := by
    rw [← HRS.out]
    unfold cutRoomV
    rw [if_pos hos, ← e1]
    exact size_le hG HO0.out HO1.out
  obtain ⟨zf, HZF⟩ : ∃ z, Hid (flowSizeV (dpM N B) (dpA N B) (dpF N B) = z) := ⟨_, rfl⟩
  have hzf : zf ≤ z := by
    rw [← HZF.out]
    unfold flowSizeV
    rw [if_pos hF, ← e1]
    exact stop_most hG hG1 hF
  have HST : Hid (stoppedV (dpM N B) (dpA N B) (dpG N B) oc (dpM N B) = true) := Lib.hid (by
    rw [stopped_eq hG hoc, HRC.out]
    unfold flowSizeV
    rw [if_pos hG, e1]
    exact decide_eq_true rfl)
  have HRN : Hid (reachedN (dpM N B) (dpA N B) (dpG N B) = dpM N B) := Lib.hid (by unfold reachedN; rw [if_pos hG]; exact Int.toNat_natCast _)
  have hFl : (dpF N B).length ≤ 2000000 := by have := (flowOk_out hF).2.1; omega
  have hGl : (dpG N B).length ≤ 2000000 := by have := (flowOk_out hG).2.1; omega
  have hcw4 := Lib.hid ((HC.out.below (Below.mk HB4.out.os HB4.out.tape HB4.out.output HB4.out.size HB4.out.block)).up HB4.out.size)
  have hX4 : X < (w3.alloc (.cells #[.int .i64 (dpM N B : Int), .slice am (dpA N B).length cm] 26)).heap.size := (Array.getElem?_eq_some_iff.1 HX4.out).1
  clear hnet hF hG hG1 e1 e2 hc0 hc1 hoc hos
  go_upto_region 5 with fail
  generalize w3.alloc (.cells #[.int .i64 (dpM N B : Int), .slice am (dpA N B).length cm] 26) = w4 at HB4 HA4 HS4 HX4 HF4 hcw4 hX4 ⊢
  generalize w3.heap.size = Y at *
  have c0 : w4.cell? ⟨X, 0, none⟩ = some (.int .i64 (dpM N B : Int)) := (cell_of_row w4 X 0 _ _ _ HX4.out).trans rfl
  have c1 : w4.cell? ⟨X, 1, none⟩ = some (.slice an (dpA N B).length cn) := (cell_of_row w4 X 1 _ _ _ HX4.out).trans rfl
  go_wp2_with fail
  refine (implMost _ _ _ z oc _ (by omega) HZ HO HM _ HA4.out).mono ?_
  rintro e w5 ⟨vc, rfl, hownc, hb⟩
  have HB5 := Lib.hid (HB4.out.trans (hb.mono HB4.out.size))
  have HC5 := Lib.hid (bools_of_own hownc)
  have HA5 := Lib.hid (arcs_on HA4.out hb)
  have HS5 := Lib.hid (bools_on HS4.out hb)
  have HF5 := Lib.hid (ints_on HF4.out hb)
  have HX5 := Lib.hid ((hb.block _ hX4).trans HX4.out)
  have hcw5 := Lib.hid ((hcw4.out.below hb).up hb.size)
  obtain ⟨ac, cc, rfl, _⟩ := id HC5.out
  clear hb hownc c0 c1 HB4 HC HA4 HS4 HF4 HX4 hcw4
  go_wp2_with fail
  refine (drawMost N B v w5 (by omega) hcw5.out).mono ?_
  rintro e w6 ⟨vg, rfl, hfull, hb⟩
  have HCS : Hid (CS (dpM N B) (dpA N B) w X (.slice an (dpA N B).length cn) (.slice a0 (dpM N B) cs) os (.slice ac (dpM N B) cc) oc (.slice af (dpF N B).length cf) (dpF N B) vg (dpG N B) w6) := Lib.hid
    ⟨HB5.out.trans (hb.mono HB5.out.size), (hb.block _ (Array.getElem?_eq_some_iff.1 HX5.out).1).trans HX5.out, arcs_on HA5.out hb, bools_on HS5.out hb, bools_on HC5.out hb, ints_on HF5.out hb, hfull⟩
  obtain ⟨ag, cg, rfl, _⟩ := ints_form hfull
  clear hb hfull HB5 HC5 HA5 HS5 HF5 HX5 hcw5
  go_upto_region 7 with fail
  generalize dpG N B = G at *
  generalize dpF N B = F at *
  generalize dpA N B = A at *
  generalize dpM N B = M at *
  have hS4 := HCS.out.held (Below.refl w6.heap.size w6).drew
  have hzz : (z == z) = true := by simp
  go_region_held3 (fun w' => w'.cell? ⟨X, 0, none⟩ = some (.int .i64 (M : Int)) ∧ w'.cell? ⟨X, 1, none⟩ = some (.slice an A.length cn) ∧ CS M A w X (.slice an A.length cn) (.slice a0 M cs) os (.slice ac M cc) oc (.slice af F.length cf) F (.slice ag G.length cg) G w')
    (first | exact hS | exact hS4 | (go_split_ands; exact CS.held (by assumption) ((Below.refl _ _).alloc (Nat.le_refl _) _)) | go_keep)
    (first
      | ((try go_split_ands); rw [if_pos (by rfl)]; have hS0 : CS M A w X (.slice an A.length cn) (.slice a0 M cs) os (.slice ac M cc) oc (.slice af F.length cf) F (.slice ag G.length cg) G _ := (by assumption); refine wp_copy _ _ rfl _ rfl _ G rfl hS0.full (by omega) ?_; intro vI wI hvI hb; refine carryB (v := vC) (o := oc) (n := M) ?_ hb ?_; (focus ((repeat (with_reducible (first | assumption | refine bools_drew ?_ | refine bools_alloc _ ?_))); done)); intro hvCI; have hS := CS.held hS0 hb; clear hb)
      | ((try go_split_ands); rw [if_pos (by rfl)]; have hS0 : CS M A w X (.slice an A.length cn) (.slice a0 M cs) os (.slice ac M cc) oc (.slice af F.length cf) F (.slice ag G.length cg) G _ := (by assumption); refine wp_copyB _ _ rfl _ rfl _ oc M rfl hS0.cut (by omega) ?_; intro vC wC hvC hb; refine carry (v := vI) (L := G) ?_ hb ?_; (focus ((repeat (with_reducible (first | assumption | refine ints_drew ?_ | refine ints_alloc _ ?_))); done)); intro hvIC; have hS := CS.held hS0 hb; clear hb)
      | ((try go_split_ands); rw [if_pos (by rfl)]; have hS0 : CS M A w X (.slice an A.length cn) (.slice a0 M cs) os (.slice ac M cc) oc (.slice af F.length cf) F (.slice ag G.length cg) G _ := (by assumption); refine wp_copy _ _ rfl _ rfl _ G rfl hS0.full (by omega) ?_; intro vI wI hvI hb; have hS := CS.held hS0 hb; clear hb)
      | ((try go_split_ands); rw [if_pos (by rfl)]; have hS0 : CS M A w X (.slice an A.length cn) (.slice a0 M cs) os (.slice ac M cc) oc (.slice af F.length cf) F (.slice ag G.length cg) G _ := (by assumption); refine wp_copyB _ _ rfl _ rfl _ oc M rfl hS0.cut (by omega) ?_; intro vC wC hvC hb; have hS := CS.held hS0 hb; clear hb)
      | ((try go_split_ands); rw [if_pos (by rfl)]; have hS0 : CS M A w X (.slice an A.length cn) (.slice a0 M cs) os (.slice ac M cc) oc (.slice af F.length cf) F (.slice ag G.length cg) G _ := (by assumption); refine wp_copyB _ _ rfl _ rfl _ os M rfl hS0.side (by omega) ?_; intro vS wS hvS hb; have hS := CS.held hS0 hb; clear hb)
      | (go_at_call 20; (try go_split_ands); have hS0 : CS M A w X (.slice an A.length cn) (.slice a0 M cs) os (.slice ac M cc) oc (.slice af F.length cf) F (.slice ag G.length cg) G _ := (by assumption); (with_reducible refine (implCutOk M A oc M _ _ true (by omega) (by omega) HOC _ hS0.arcn (by assumption)).mono ?_); rintro e wc ⟨rfl, hb⟩; (try go_split_ands); have hS := CS.held hS0 hb; clear hb)
      | (go_at_call 20; (try go_split_ands); have hS0 : CS M A w X (.slice an A.length cn) (.slice a0 M cs) os (.slice ac M cc) oc (.slice af F.length cf) F (.slice ag G.length cg) G _ := (by assumption); (with_reducible refine (implCutOk M A os M _ _ true (by omega) (by omega) HOS _ hS0.arcn (by assumption)).mono ?_); rintro e wc ⟨rfl, hb⟩; (try go_split_ands); have hS := CS.held hS0 hb; clear hb)
      | (go_at_call 21; (try go_split_ands); have hS0 : CS M A w X (.slice an A.length cn) (.slice a0 M cs) os (.slice ac M cc) oc (.slice af F.length cf) F (.slice ag G.length cg) G _ := (by assumption); (with_reducible refine (implCutRoom M A oc M _ _ z (by omega) (by omega) HRC _ hS0.arcn (by assumption)).mono ?_); rintro e wc ⟨rfl, hb⟩; (try go_split_ands); have hS := CS.held hS0 hb; clear hb)
      | (go_at_call 21; (try go_split_ands); have hS0 : CS M A w X (.slice an A.length cn) (.slice a0 M cs) os (.slice ac M cc) oc (.slice af F.length cf) F (.slice ag G.length cg) G _ := (by assumption); (with_reducible refine (implCutRoom M A os M _ _ zs (by omega) (by omega) HRS _ hS0.arcn (by assumption)).mono ?_); rintro e wc ⟨rfl, hb⟩; (try go_split_ands); have hS := CS.held hS0 hb; clear hb)
      | (go_at_call 14; (try go_split_ands); have hS0 : CS M A w X (.slice an A.length cn) (.slice a0 M cs) os (.slice ac M cc) oc (.slice af F.length cf) F (.slice ag G.length cg) G _ := (by assumption); (with_reducible refine (specFlowSize M A F _ _ zf (by omega) hFl HZF _ hS0.arcn hS0.flow).mono ?_); rintro e wc ⟨rfl, hb⟩; (try go_split_ands); have hS := CS.held hS0 hb; clear hb)
      | (go_at_call 22; (try go_split_ands); have hS0 : CS M A w X (.slice an A.length cn) (.slice a0 M cs) os (.slice ac M cc) oc (.slice af F.length cf) F (.slice ag G.length cg) G _ := (by assumption); (with_reducible refine (implStopped M A G oc M _ _ _ true (by omega) hGl (by omega) HST _ hS0.arcn (by assumption) (by assumption)).mono ?_); rintro e wc ⟨rfl, hb⟩; (try go_split_ands); have hS := CS.held hS0 hb; clear hb)
      | (go_at_call 13; (try go_split_ands); have hS0 : CS M A w X (.slice an A.length cn) (.slice a0 M cs) os (.slice ac M cc) oc (.slice af F.length cf) F (.slice ag G.length cg) G _ := (by assumption); (with_reducible refine (implReached M A G _ _ M HRN _ (by omega) hGl hS0.arcn (by assumption)).mono ?_); rintro e wc ⟨vr, rfl, hownr, hb⟩; have hvr := bools_of_own hownr; rw [HOG.out] at hvr; (try go_split_ands); have hS := CS.held hS0 hb; clear hb)
      | (go_at_call 23; (try go_split_ands); have hS0 : CS M A w X (.slice an A.length cn) (.slice a0 M cs) os (.slice ac M cc) oc (.slice af F.length cf) F (.slice ag G.length cg) G _ := (by assumption); (with_reducible refine (sameBoolsT _ _ oc M _ (by assumption) hS0.cut (by omega)).mono ?_); rintro e wc ⟨rfl, nq, rfl⟩; (try go_split_ands); have hS := CS.held hS0 (below_drewN (Below.refl _ _) nq)))
  all_goals
    go_wp2_with fail
    go_ret
    exact ⟨rfl, hS.2.2.below⟩

theorem walk_big (N : Nat) (B : Nat → Int) (v : Value) (hN : N ≤ maxLen) (w : World) (hc : CodeF w v N B w.heap.size) (h : 1048576 < N) :
    Calls Try.prog 4 #[v] w fun e w' => e = .returned (.bool true) ∧ Below w.heap.size w w' := by
  go_enter Try.func4, Try.ntmps4
  go_wp2_with fail
  refine (bigYes N _ B v w hN hc h).mono ?_
  rintro e w' ⟨rfl, rfl⟩
  go_wp2_with fail
  go_ret
  exact ⟨rfl, Below.refl _ _⟩

theorem walk (v : Value) (N : Nat) (w : World) (hc : CodeB w v N w.heap.size) (hN : N ≤ maxLen) :
    Calls Try.prog 4 #[v] w fun e w' => e = .returned (.bool true) ∧ Below w.heap.size w w' := by
  obtain ⟨B, hF⟩ := code_of hc
  rcases Nat.lt_or_ge 1048576 N with h | h
  · exact walk_big N B v hN w hF h
  · exact walk_in N B v h w hF
-- LIFT
set_option maxRecDepth 100000 in
theorem lifted (os : Os) (started : os.Started) (H : Type) (enc : TypeId × Value → H) :
    ReturnsInHanded {} Try.checked os 4 .any (Rows.fnMostCutSpec.pre6 enc Try.prog Try.f4 Rows.fnMostCutRow.domain false) (Rows.fnMostCutSpec.post enc Try.prog Try.f4 false true false false) := by
  refine returnsInHanded_of_change (C := Try.checked) own started (by kernel_rfl) Try.func4
    (ChangeSpec.witness6 (enc := enc) (C := Try.checked) false ⟨#[], #[.slice none 0 0], []⟩ 8 (by kernel_rfl) (by kernel_rfl) (by kernel_rfl) (by kernel_rfl)) ?_
  intro W base args ds gs before hval0 hW hcnd _
  have hval : ∀ (j : Nat) t v, Try.f4.params[j]? = some t → args[j]? = some v → Value.okWide Try.prog W .any base t v := hval0
  have hW' := hW
  obtain ⟨p, q, hA0, hV, rfl, hfz, hnd⟩ := hW
  have hA : DataW.TrodAll enc Try.prog W 0 (fun _ => true) true Try.f4.params.toList args.toList ds p := hA0
  rw [Try.params4] at hA hval
  obtain ⟨v0, vs0, d0, ds0, p0, q0, hargs, rfl, rfl, h0, r0⟩ := trodAll_cons hA
  obtain ⟨rfl, rfl, rfl⟩ := trodAll_nil r0
  obtain rfl : args = #[v0] := by cases args; simp_all
  obtain ⟨rfl, rfl⟩ := trodVars_none hV
  obtain ⟨L0, w0, l0, again0⟩ := open_arg_bytes (hval 0 22 v0 rfl rfl) h0
  clear hA0 hval0
  simp only [List.append_nil] at hW'
  refine (walk v0 L0 W w0 l0).mono fun e W' ⟨he, hg⟩ => ?_
  subst he
  exact ⟨_, rfl, post_of_below (pa := p0 ++ ([])) (pv := []) hW' (fun _ _ _ => (trodAll_cons_mk (shut_bool Try.underlying4 _) trodAll_mk0)) (fun sp hsp => (trodAll_cons_mk (again0 W' hg sp (fun p hp => hsp p (by simp [hp]))) trodAll_mk0)) (fun _ _ => rfl) (by simp)
    hg (ok_one (by kernel_rfl) rfl (okWide_bool_mk Try.underlying4 _))⟩

theorem over : Rows.fnMostCutRow.holds Try.pinned (OpenSpec.ofChange Rows.fnMostCutSpec) :=
  OpenClaim.holds_of_wide 4 Try.f4 rfl rfl rfl rfl rfl rfl rfl ⟨rfl, rfl, rfl, rfl, rfl⟩ rfl rfl rfl rfl rfl (by kernel_rfl) Try.func4 (by kernel_rfl)
    (of_decide_eq_true (by kernel_rfl)) (by unfold Func.isWrapper; first | (rw [if_pos (by decide +kernel)]; kernel_rfl) | (rw [if_neg (by decide +kernel)]; exact ⟨rfl, rfl⟩))
    (fun os started H enc _ => lifted os started H enc)

theorem proved : Rows.FnMostCutSaid :=
  over

end Go.Proofs.Ytghhlojjjjnogaa.fnMostCut
