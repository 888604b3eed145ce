/-
  THE LAW FnFlows: the drawn flow is one, of the size that the model says and not below nought; node 0 can be reached; twice the flow, where it is a flow, has twice its size and twice its cost. For every input.
-/
import Derived.Test.YtghhlojjjjnogaaSpecSize
import Derived.Test.YtghhlojjjjnogaaCostI
import Derived.Test.YtghhlojjjjnogaaDrawP
import Derived.Test.YtghhlojjjjnogaaSameNet
import Derived.Test.YtghhlojjjjnogaaMoreI
import Derived.Test.YtghhlojjjjnogaaReachedI
import Derived.Test.YtghhlojjjjnogaaArgBytes
import Derived.Test.YtghhlojjjjnogaaCodeOf
import Derived.Test.YtghhlojjjjnogaaArgCopy
import Derived.Deep.CutRange
import Derived.Deep.DeepCutAuto
import Derived.Deep.RegionHeld3
import Derived.IntWalk
import Derived.Lib.SmallJoins
namespace Go.Proofs.Ytghhlojjjjnogaa.fnFlows
set_option maxRecDepth 4096
open Go.ChangeShapes Go.WideShapes Go.ChangeAt Go.RowKit Go.Joins

theorem bigYes (N g : Nat) (B : Nat → Int) (v : Value) (w : World) (hN : N ≤ maxLen) (hc : CodeF w v N B g) (h : 1048576 < N) : Calls Try.prog 7 #[v] w fun e w' => e = .returned (.bool true) ∧ w = w' := by
  obtain ⟨a, c, rfl, _⟩ := hc
  have hN2 : N ≤ 9223372036854775807 := by unfold maxLen at hN; omega
  have hd : (1048576 : Int) < (N : Int) := by omega
  go_enter Try.func7, Try.ntmps7
  go_wp2
  go_ret
  exact ⟨rfl, rfl⟩
theorem bigNo (N g : Nat) (B : Nat → Int) (v : Value) (w : World) (hc : CodeF w v N B g) (h : N ≤ 1048576) : Calls Try.prog 7 #[v] w fun e w' => e = .returned (.bool false) ∧ w = w' := by
  obtain ⟨a, c, rfl, _⟩ := hc
  have hd : ¬ (1048576 : Int) < (N : Int) := by omega
  go_enter Try.func7, Try.ntmps7
  go_wp2
  go_ret
  exact ⟨rfl, rfl⟩
/-- What lies in the law's own memory: both networks, both flows. -/
structure FSt (N : Nat) (B : Nat → Int) (w : World) (X Y : Nat) (na nb va vb : Value) (wx : World) : Prop where
  below : Below w.heap.size w wx
  boxn : wx.heap[X]? = some (.cells #[.int .i64 (dpM N B : Int), na] 26)
  boxm : wx.heap[Y]? = some (.cells #[.int .i64 (dpM N B : Int), nb] 26)
  arcn : Arcs wx na (dpA N B)
  arcm : Arcs wx nb (dpA N B)
  fa : Ints wx va (dpF N B)
  fb : Ints wx vb (dpF N B)
section
variable {N : Nat} {B : Nat → Int} {w wx wy : World} {X Y : Nat} {na nb va vb : Value}
theorem FSt.on (h : FSt N B w X Y na nb va vb wx) (hb : Below wx.heap.size wx wy) : FSt N B w X Y na nb va vb wy :=
  ⟨h.below.trans (hb.mono h.below.size), (hb.block _ (Array.getElem?_eq_some_iff.1 h.boxn).1).trans h.boxn, (hb.block _ (Array.getElem?_eq_some_iff.1 h.boxm).1).trans h.boxm, arcs_on h.arcn hb, arcs_on h.arcm hb, ints_on h.fa hb, ints_on h.fb hb⟩
theorem FSt.cells (h : FSt N B w X Y na nb va vb wx) : wx.cell? ⟨X, 0, none⟩ = some (.int .i64 (dpM N B : Int)) ∧ wx.cell? ⟨X, 1, none⟩ = some na ∧ wx.cell? ⟨Y, 0, none⟩ = some (.int .i64 (dpM N B : Int)) ∧ wx.cell? ⟨Y, 1, none⟩ = some nb :=
  ⟨(cell_of_row wx X 0 _ _ _ h.boxn).trans rfl, (cell_of_row wx X 1 _ _ _ h.boxn).trans rfl, (cell_of_row wx Y 0 _ _ _ h.boxm).trans rfl, (cell_of_row wx Y 1 _ _ _ h.boxm).trans rfl⟩
theorem FSt.drew (h : FSt N B w X Y na nb va vb wx) : FSt N B w X Y na nb va vb wx.drew := h.on (Below.refl wx.heap.size wx).drew
/-- What the regions hold. -/
def FH (N : Nat) (B : Nat → Int) (w : World) (X Y : Nat) (na nb va vb : Value) (wx : World) : Prop :=
  wx.cell? ⟨X, 0, none⟩ = some (.int .i64 (dpM N B : Int)) ∧ wx.cell? ⟨X, 1, none⟩ = some na ∧ wx.cell? ⟨Y, 0, none⟩ = some (.int .i64 (dpM N B : Int)) ∧ wx.cell? ⟨Y, 1, none⟩ = some nb ∧ FSt N B w X Y na nb va vb wx
theorem FSt.held (h : FSt N B w X Y na nb va vb wx) (hb : Below wx.heap.size wx wy) : wy.cell? ⟨X, 0, none⟩ = some (.int .i64 (dpM N B : Int)) ∧ wy.cell? ⟨X, 1, none⟩ = some na ∧ wy.cell? ⟨Y, 0, none⟩ = some (.int .i64 (dpM N B : Int)) ∧ wy.cell? ⟨Y, 1, none⟩ = some nb ∧ FSt N B w X Y na nb va vb wy :=
  have h2 := h.on hb
  ⟨h2.cells.1, h2.cells.2.1, h2.cells.2.2.1, h2.cells.2.2.2, h2⟩
end
/-- .. and what FlowMore handed back. -/
structure FS2 (N : Nat) (B : Nat → Int) (w : World) (X Y : Nat) (na nb va vb vc : Value) (C : List Int) (wx : World) : Prop where
  fs : FSt N B w X Y na nb va vb wx
  cc : Ints wx vc C
section
variable {N : Nat} {B : Nat → Int} {w wx wy : World} {X Y : Nat} {na nb va vb vc : Value} {C : List Int}
theorem FS2.on (h : FS2 N B w X Y na nb va vb vc C wx) (hb : Below wx.heap.size wx wy) : FS2 N B w X Y na nb va vb vc C wy := ⟨h.fs.on hb, ints_on h.cc hb⟩
theorem FS2.held (h : FS2 N B w X Y na nb va vb vc C wx) (hb : Below wx.heap.size wx wy) : wy.cell? ⟨X, 0, none⟩ = some (.int .i64 (dpM N B : Int)) ∧ wy.cell? ⟨X, 1, none⟩ = some na ∧ wy.cell? ⟨Y, 0, none⟩ = some (.int .i64 (dpM N B : Int)) ∧ wy.cell? ⟨Y, 1, none⟩ = some nb ∧ FS2 N B w X Y na nb va vb vc C wy :=
  have h2 := h.on hb
  ⟨h2.fs.cells.1, h2.fs.cells.2.1, h2.fs.cells.2.2.1, h2.fs.cells.2.2.2, h2⟩
end
theorem carry {w w1 : World} {v : Value} {L : List Int} {Q : Prop} (h : Ints w v L) (hb : Below w.heap.size w w1) (k : Ints w1 v L → Q) : Q := k (ints_on h hb)
theorem ints_drew {w : World} {v : Value} {L : List Int} (h : Ints w v L) : Ints w.drew v L := ints_on h (Below.refl w.heap.size w).drew
theorem ints_alloc {w : World} {v : Value} {L : List Int} (o : Obj) (h : Ints w v L) : Ints (w.alloc o) v L := ints_on h ((Below.refl w.heap.size w).alloc (Nat.le_refl _) o)

set_option maxRecDepth 100000 in
set_option maxHeartbeats 4000000 in
theorem walk_in (N : Nat) (B : Nat → Int) (v : Value) (hN : N ≤ 1048576) (w : World) (hc : CodeF w v N B w.heap.size) :
    Calls Try.prog 3 #[v] w fun e w' => e = .returned (.bool true) ∧ Below w.heap.size w w' := by
  have HC := Lib.hid hc
  go_enter Try.func3, Try.ntmps3
  go_wp2_with fail
  refine (bigNo N _ B v w hc hN).mono ?_
  rintro e w' ⟨rfl, rfl⟩
  clear hc
  go_wp2_with fail
  refine (drawP N B v w (by omega) HC.out).mono ?_
  rintro e w1 ⟨na, va, rfl, ha, hf, hb⟩
  obtain ⟨an, cn, rfl, _⟩ := arcs_form ha
  obtain ⟨af, cf, rfl, _⟩ := ints_form hf
  have hb2 := (Below.refl w1.heap.size w1).alloc (Nat.le_refl _) (.cells #[.int .i64 (dpM N B : Int), .slice an (dpA N B).length cn] 26)
  have HB2 := Lib.hid (hb.trans (hb2.mono hb.size))
  have HA2 := Lib.hid (arcs_on ha hb2)
  have HF2 := Lib.hid (ints_on hf hb2)
  have HX2 := Lib.hid (heap_alloc_new w1 (.cells #[.int .i64 (dpM N B : Int), .slice an (dpA N B).length cn] 26))
  have hcw := Lib.hid ((HC.out.below (Below.mk HB2.out.os HB2.out.tape HB2.out.output HB2.out.size HB2.out.block)).up HB2.out.size)
  clear ha hf hb hb2
  go_wp2_with fail
  generalize w1.alloc (.cells #[.int .i64 (dpM N B : Int), .slice an (dpA N B).length cn] 26) = w2 at HB2 HA2 HF2 HX2 hcw ⊢
  refine (drawP N B v w2 (by omega) hcw.out).mono ?_
  rintro e w3 ⟨nb, vb, rfl, ha, hf, hb⟩
  obtain ⟨am, cm, rfl, _⟩ := arcs_form ha
  obtain ⟨ag, cg, rfl, _⟩ := ints_form hf
  have hb2 := (Below.refl w3.heap.size w3).alloc (Nat.le_refl _) (.cells #[.int .i64 (dpM N B : Int), .slice am (dpA N B).length cm] 26)
  have hb23 := hb.trans (hb2.mono hb.size)
  have hS4 : FSt N B w w1.heap.size w3.heap.size (.slice an (dpA N B).length cn) (.slice am (dpA N B).length cm) (.slice af (dpF N B).length cf) (.slice ag (dpF N B).length cg) (w3.alloc (.cells #[.int .i64 (dpM N B : Int), .slice am (dpA N B).length cm] 26)) :=
    ⟨HB2.out.trans (hb23.mono HB2.out.size), (hb23.block _ (Array.getElem?_eq_some_iff.1 HX2.out).1).trans HX2.out, heap_alloc_new w3 _, arcs_on HA2.out hb23, arcs_on ha hb2, ints_on HF2.out hb23, ints_on hf hb2⟩
  have HS4 := Lib.hid hS4
  clear ha hf hb hb2 hb23 hS4 HB2 HA2 HF2 HX2 hcw
  go_upto_region 5 with fail
  generalize w3.alloc (.cells #[.int .i64 (dpM N B : Int), .slice am (dpA N B).length cm] 26) = w4 at HS4 ⊢
  generalize w3.heap.size = Y at HS4 ⊢
  obtain ⟨hnet, hA18⟩ := dp_ok N B
  obtain ⟨hflow, hsize⟩ := pushed_ok hnet (dpK N B)
  have hflow2 : flowOkV (dpM N B) (dpA N B) (dpF N B) = true := hflow
  have hsize2 : 0 ≤ netO ((dpA N B).zip (dpF N B)) 0 := hsize
  obtain ⟨_, hFl, hroom, _⟩ := flowOk_out hflow2
  obtain ⟨n', hn', hM2, hM15, _, _, hFl9, hP20⟩ := flow_facts hflow2
  obtain rfl : n' = dpM N B := by omega
  have hF18 : (dpF N B).length ≤ 18 := by omega
  have HFO : Hid (flowOkV (dpM N B) (dpA N B) (dpF N B) = true) := Lib.hid hflow2
  have HFL := Lib.hid hFl
  obtain ⟨z, HZ⟩ : ∃ z, Hid (flowSizeV (dpM N B) (dpA N B) (dpF N B) = z) := ⟨_, rfl⟩
  have hz : netO ((dpA N B).zip (dpF N B)) 0 = z := by rw [← HZ.out]; unfold flowSizeV; rw [if_pos hflow2]
  have HNZ := Lib.hid hz
  have hz0 : 0 ≤ z := by rw [← hz]; exact hsize2
  have hz1 : z ≤ 360 := by
    have := (netO_bound hP20 0).2
    have h2 : ((dpA N B).zip (dpF N B)).length ≤ 18 := by rw [List.length_zip]; omega
    omega
  clear hnet hflow hsize hflow2 hsize2 hroom hn' hFl hFl9 hz hP20
  have hS4 := HS4.out.drew.cells
  have hS4' : w4.drew.cell? ⟨w1.heap.size, 0, none⟩ = some (.int .i64 (dpM N B : Int)) ∧ w4.drew.cell? ⟨w1.heap.size, 1, none⟩ = some (.slice an (dpA N B).length cn) ∧ w4.drew.cell? ⟨Y, 0, none⟩ = some (.int .i64 (dpM N B : Int)) ∧ w4.drew.cell? ⟨Y, 1, none⟩ = some (.slice am (dpA N B).length cm) ∧ FSt N B w w1.heap.size Y (.slice an (dpA N B).length cn) (.slice am (dpA N B).length cm) (.slice af (dpF N B).length cf) (.slice ag (dpF N B).length cg) w4.drew := HS4.out.held (Below.refl w4.heap.size w4).drew
  go_region_held3 (fun w' => w'.cell? ⟨w1.heap.size, 0, none⟩ = some (.int .i64 (dpM N B : Int)) ∧ w'.cell? ⟨w1.heap.size, 1, none⟩ = some (.slice an (dpA N B).length cn) ∧ w'.cell? ⟨Y, 0, none⟩ = some (.int .i64 (dpM N B : Int)) ∧ w'.cell? ⟨Y, 1, none⟩ = some (.slice am (dpA N B).length cm) ∧ FSt N B w w1.heap.size Y (.slice an (dpA N B).length cn) (.slice am (dpA N B).length cm) (.slice af (dpF N B).length cf) (.slice ag (dpF N B).length cg) w')
    (first | exact hS | exact hS4' | (go_split_ands; exact FSt.held (by assumption) ((Below.refl _ _).alloc (Nat.le_refl _) _)) | go_keep)
    (first
      | ((try go_split_ands); rw [if_pos (by rfl)]; have hS0 : FSt N B w w1.heap.size Y (.slice an (dpA N B).length cn) (.slice am (dpA N B).length cm) (.slice af (dpF N B).length cf) (.slice ag (dpF N B).length cg) _ := (by assumption); refine wp_copy _ _ rfl _ rfl _ (dpF N B) rfl hS0.fa (by omega) ?_; intro v5 w5 hv5 hb; have hS := FSt.held hS0 hb; clear hb)
      | (go_at_call 9; (try go_split_ands); have hS0 : FSt N B w w1.heap.size Y (.slice an (dpA N B).length cn) (.slice am (dpA N B).length cm) (.slice af (dpF N B).length cf) (.slice ag (dpF N B).length cg) _ := (by assumption); (with_reducible refine (implFlowOk _ (dpA N B) (dpF N B) _ _ true (by omega) (by omega) HFO _ hS0.arcn (by assumption)).mono ?_); rintro e w6 ⟨rfl, hb⟩; (try go_split_ands); have hS := FSt.held hS0 hb; clear hb)
      | (go_at_call 10; (try go_split_ands); have hS0 : FSt N B w w1.heap.size Y (.slice an (dpA N B).length cn) (.slice am (dpA N B).length cm) (.slice af (dpF N B).length cf) (.slice ag (dpF N B).length cg) _ := (by assumption); (with_reducible refine (sameNetT _ (dpA N B) _ _ _ (by omega) hS0.arcn hS0.arcm).mono ?_); rintro e w7 ⟨rfl, hb⟩; (try go_split_ands); have hS := FSt.held hS0 hb; clear hb))
  have HS5 := Lib.hid hS.2.2.2.2
  clear hS HS4
  obtain ⟨C, HCC⟩ : ∃ C, Hid (flowMoreL (dpM N B) (dpA N B) (dpF N B) (dpF N B) = C) := ⟨_, rfl⟩
  go_upto_region 7 with fail
  have hS4 := HS5.out.held (Below.refl _ _).drew
  go_region_held3 (fun w' => w'.cell? ⟨w1.heap.size, 0, none⟩ = some (.int .i64 (dpM N B : Int)) ∧ w'.cell? ⟨w1.heap.size, 1, none⟩ = some (.slice an (dpA N B).length cn) ∧ w'.cell? ⟨Y, 0, none⟩ = some (.int .i64 (dpM N B : Int)) ∧ w'.cell? ⟨Y, 1, none⟩ = some (.slice am (dpA N B).length cm) ∧ FSt N B w w1.heap.size Y (.slice an (dpA N B).length cn) (.slice am (dpA N B).length cm) (.slice af (dpF N B).length cf) (.slice ag (dpF N B).length cg) w')
    (first | exact hS | exact hS4 | (go_split_ands; exact FSt.held (by assumption) ((Below.refl _ _).alloc (Nat.le_refl _) _)) | go_keep)
    (first
      | ((try go_split_ands); rw [if_pos (by rfl)]; have hS0 : FSt N B w w1.heap.size Y (.slice an (dpA N B).length cn) (.slice am (dpA N B).length cm) (.slice af (dpF N B).length cf) (.slice ag (dpF N B).length cg) _ := (by assumption); refine wp_copy _ _ rfl _ rfl _ (dpF N B) rfl hS0.fa (by omega) ?_; intro v8 w8 hv8 hb; have hS := FSt.held hS0 hb; clear hb)
      | (go_at_call 11; (try go_split_ands); have hS0 : FSt N B w w1.heap.size Y (.slice an (dpA N B).length cn) (.slice am (dpA N B).length cm) (.slice af (dpF N B).length cf) (.slice ag (dpF N B).length cg) _ := (by assumption); (with_reducible refine (implFlowSize _ (dpA N B) (dpF N B) _ _ z (by omega) (by omega) HZ _ hS0.arcn (by assumption)).mono ?_); rintro e w9 ⟨rfl, hb⟩; (try go_split_ands); have hS := FSt.held hS0 hb; clear hb))
  have HS6 := Lib.hid hS.2.2.2.2
  clear hS HS5
  go_upto_region 8 with fail
  have hS4 := HS6.out.held (Below.refl _ _).drew
  go_cut [8] from 39 to 46 (fun u wx => ∃ ac cc, u = .slice ac C.length cc ∧ FS2 N B w w1.heap.size Y (.slice an (dpA N B).length cn) (.slice am (dpA N B).length cm) (.slice af (dpF N B).length cf) (.slice ag (dpF N B).length cg) (.slice ac C.length cc) C wx)
  case first =>
    go_region_held3 (fun w' => w'.cell? ⟨w1.heap.size, 0, none⟩ = some (.int .i64 (dpM N B : Int)) ∧ w'.cell? ⟨w1.heap.size, 1, none⟩ = some (.slice an (dpA N B).length cn) ∧ w'.cell? ⟨Y, 0, none⟩ = some (.int .i64 (dpM N B : Int)) ∧ w'.cell? ⟨Y, 1, none⟩ = some (.slice am (dpA N B).length cm) ∧ FSt N B w w1.heap.size Y (.slice an (dpA N B).length cn) (.slice am (dpA N B).length cm) (.slice af (dpF N B).length cf) (.slice ag (dpF N B).length cg) w')
      (first | exact hS | exact hS4 | (go_split_ands; exact FSt.held (by assumption) ((Below.refl _ _).alloc (Nat.le_refl _) _)) | go_keep)
      (first
        | ((try go_split_ands); rw [if_pos (by rfl)]; have hS0 : FSt N B w w1.heap.size Y (.slice an (dpA N B).length cn) (.slice am (dpA N B).length cm) (.slice af (dpF N B).length cf) (.slice ag (dpF N B).length cg) _ := (by assumption); refine wp_copy _ _ rfl _ rfl _ (dpF N B) rfl hS0.fb (by omega) ?_; intro v11 w11 hv11 hb; refine carry (v := v10) (L := dpF N B) ?_ hb ?_; (focus ((repeat (with_reducible (first | assumption | refine ints_drew ?_ | refine ints_alloc _ ?_))); done)); intro hv1011; have hS := FSt.held hS0 hb; clear hb)
        | ((try go_split_ands); rw [if_pos (by rfl)]; have hS0 : FSt N B w w1.heap.size Y (.slice an (dpA N B).length cn) (.slice am (dpA N B).length cm) (.slice af (dpF N B).length cf) (.slice ag (dpF N B).length cg) _ := (by assumption); refine wp_copy _ _ rfl _ rfl _ (dpF N B) rfl hS0.fa (by omega) ?_; intro v10 w10 hv10 hb; have hS := FSt.held hS0 hb; clear hb)
        | (go_at_call 12; (try go_split_ands); have hS0 : FSt N B w w1.heap.size Y (.slice an (dpA N B).length cn) (.slice am (dpA N B).length cm) (.slice af (dpF N B).length cf) (.slice ag (dpF N B).length cg) _ := (by assumption); (with_reducible refine (implFlowMore _ (dpA N B) (dpF N B) (dpF N B) C _ _ _ (by omega) (by omega) (by omega) HCC _ hS0.arcn (by assumption) (by assumption)).mono ?_); rintro e w12 ⟨vc, rfl, hownc, hb⟩; (try go_split_ands); have hS := FSt.held hS0 hb; clear hb))
    all_goals
      obtain ⟨ac, cc, rfl⟩ := own_form hownc
      go_wp2_with fail
      go_meet
      exact ⟨ac, cc, rfl, hS.2.2.2.2, ints_of_own hownc⟩
  case rest =>
    obtain ⟨ac, cc, rfl, hS7⟩ := hcut
    have HS7 := Lib.hid hS7
    clear hS7 HS6 hS4
    have HRN : Hid (reachedN (dpM N B) (dpA N B) (dpF N B) = dpM N B) := Lib.hid (by unfold reachedN; rw [if_pos HFO.out]; exact Int.toNat_natCast _)
    have hCl : C.length ≤ 18 := by
      rw [← HCC.out]
      unfold flowMoreL
      split
      · unfold addL
        rw [List.length_zipWith]
        omega
      · simp
    go_upto_region 9 with fail
    have hS4 := HS7.out.held (Below.refl _ _).drew
    go_region_held3 (fun w' => w'.cell? ⟨w1.heap.size, 0, none⟩ = some (.int .i64 (dpM N B : Int)) ∧ w'.cell? ⟨w1.heap.size, 1, none⟩ = some (.slice an (dpA N B).length cn) ∧ w'.cell? ⟨Y, 0, none⟩ = some (.int .i64 (dpM N B : Int)) ∧ w'.cell? ⟨Y, 1, none⟩ = some (.slice am (dpA N B).length cm) ∧ FS2 N B w w1.heap.size Y (.slice an (dpA N B).length cn) (.slice am (dpA N B).length cm) (.slice af (dpF N B).length cf) (.slice ag (dpF N B).length cg) (.slice ac C.length cc) C w')
      (first | exact hS | exact hS4 | (go_split_ands; exact FS2.held (by assumption) ((Below.refl _ _).alloc (Nat.le_refl _) _)) | go_keep)
      (first
        | ((try go_split_ands); rw [if_pos (by rfl)]; have hS0 : FS2 N B w w1.heap.size Y (.slice an (dpA N B).length cn) (.slice am (dpA N B).length cm) (.slice af (dpF N B).length cf) (.slice ag (dpF N B).length cg) (.slice ac C.length cc) C _ := (by assumption); refine wp_copy _ _ rfl _ rfl _ (dpF N B) rfl hS0.fs.fa (by omega) ?_; intro v13 w13 hv13 hb; have hS := FS2.held hS0 hb; clear hb)
        | (go_at_call 13; (try go_split_ands); have hS0 : FS2 N B w w1.heap.size Y (.slice an (dpA N B).length cn) (.slice am (dpA N B).length cm) (.slice af (dpF N B).length cf) (.slice ag (dpF N B).length cg) (.slice ac C.length cc) C _ := (by assumption); (with_reducible refine (implReached _ (dpA N B) (dpF N B) _ _ (dpM N B) HRN _ (by omega) (by omega) hS0.fs.arcn (by assumption)).mono ?_); rintro e w14 ⟨vr, rfl, hownr, hb⟩; (try go_split_ands); have hS := FS2.held hS0 hb; clear hb))
    obtain ⟨gr, cr, rfl⟩ := own_at2 hownr (by omega : 0 < dpM N B)
    have hr0 : reachedB (dpA N B) (dpF N B) 0 = true := resB_iff.2 Res.src
    have hrc := own_bool hownr (by omega : 0 < dpM N B)
    rw [hr0] at hrc
    have hgr : gr < w14.heap.size := (hownr.lt gr rfl).2
    have HS8 := Lib.hid hS.2.2.2.2
    clear hS hownr HS7 hr0
    obtain ⟨c0, c1, _, _⟩ := HS8.out.fs.cells
    have hzz : (z != z) = false := by simp
    have hz9 : ¬ z < 0 := by omega
    have hmm : ((dpM N B : Int) != (dpM N B : Int)) = false := by simp
    by_cases hC0 : C.length = 0
    · obtain rfl : C = [] := List.eq_nil_of_length_eq_zero hC0
      clear hC0
      by_cases hF0 : (dpF N B).length = 0
      · have e1 : ((0 : Int) != ((dpF N B).length : Int)) = false := by rw [hF0]; rfl
        have e2 : (((dpF N B).length : Int) == 0) = true := by rw [hF0]; rfl
        clear hF0
        go_wp2_with (first
          | (go_at_call 14; refine (specFlowSize _ (dpA N B) (dpF N B) _ _ z (by omega) (by omega) HZ _ HS8.out.fs.arcn HS8.out.fs.fa).mono ?_; rintro e w15 ⟨rfl, hb⟩; have HS9 := Lib.hid (HS8.out.on hb); obtain ⟨c0, c1, _, _⟩ := HS9.out.fs.cells; have hr9 := (hb.cell (p := ⟨gr, 0, none⟩) hgr).trans hrc; clear hb)
          | (go_at_call 15; refine (specFlowMore _ (dpA N B) (dpF N B) (dpF N B) [] _ _ _ (by omega) (by omega) (by omega) HCC _ HS9.out.fs.arcn HS9.out.fs.fa HS9.out.fs.fb).mono ?_; rintro e w16 ⟨vm, rfl, hownm, hb⟩; obtain ⟨av, cv, rfl⟩ := own_form hownm; have HB16 := Lib.hid (HS9.out.on hb).fs.below; clear hb hownm))
        go_ret
        exact ⟨rfl, HB16.out⟩
      · have e1 : ((0 : Int) != ((dpF N B).length : Int)) = true := by simp; omega
        clear hF0
        go_wp2_with (first
          | (go_at_call 14; refine (specFlowSize _ (dpA N B) (dpF N B) _ _ z (by omega) (by omega) HZ _ HS8.out.fs.arcn HS8.out.fs.fa).mono ?_; rintro e w15 ⟨rfl, hb⟩; have HS9 := Lib.hid (HS8.out.on hb); obtain ⟨c0, c1, _, _⟩ := HS9.out.fs.cells; have hr9 := (hb.cell (p := ⟨gr, 0, none⟩) hgr).trans hrc; clear hb)
          | (go_at_call 15; refine (specFlowMore _ (dpA N B) (dpF N B) (dpF N B) [] _ _ _ (by omega) (by omega) (by omega) HCC _ HS9.out.fs.arcn HS9.out.fs.fa HS9.out.fs.fb).mono ?_; rintro e w16 ⟨vm, rfl, hownm, hb⟩; obtain ⟨av, cv, rfl⟩ := own_form hownm; have HB16 := Lib.hid (HS9.out.on hb).fs.below; clear hb hownm))
        go_ret
        exact ⟨rfl, HB16.out⟩
    · have hok : flowOkV (dpM N B) (dpA N B) (addL (dpF N B) (dpF N B)) = true := by
        cases h : flowOkV (dpM N B) (dpA N B) (addL (dpF N B) (dpF N B)) with
        | true => rfl
        | false =>
          exfalso
          have := HCC.out
          unfold flowMoreL at this
          rw [if_neg (by rw [h]; simp)] at this
          rw [← this] at hC0
          exact hC0 rfl
      have hCa : addL (dpF N B) (dpF N B) = C := by
        rw [← HCC.out]
        unfold flowMoreL
        rw [if_pos ⟨HFO.out, HFO.out, hok⟩]
      rw [hCa] at hok
      have hCLF : C.length = (dpF N B).length := by rw [← hCa, addL_len HFL.out HFL.out, HFL.out]
      have HZ2 : Hid (flowSizeV (dpM N B) (dpA N B) C = 2 * z) := Lib.hid (by
        unfold flowSizeV
        rw [if_pos hok, ← hCa, netO_add HFL.out HFL.out, HNZ.out]
        omega)
      obtain ⟨y, HY⟩ : ∃ y, Hid (flowCostV (dpM N B) (dpA N B) (dpF N B) = y) := ⟨_, rfl⟩
      have hy : costO ((dpA N B).zip (dpF N B)) = y := by rw [← HY.out]; unfold flowCostV; rw [if_pos HFO.out]
      have HY2 : Hid (flowCostV (dpM N B) (dpA N B) C = 2 * y) := Lib.hid (by
        unfold flowCostV
        rw [if_pos hok, ← hCa, costO_add HFL.out HFL.out, hy]
        omega)
      have hyb : 0 ≤ y ∧ y ≤ 36000 := by
        obtain ⟨n2, hn2, _, _, hok2, _, _, hP2⟩ := flow_facts HFO.out
        have h1 := costO_bound (P := (dpA N B).zip (dpF N B)) (fun p hp => ⟨hP2 p hp, (arcOk_out (hok2 _ (zip_arc hp))).2.2.2.2⟩)
        have h2 : ((dpA N B).zip (dpF N B)).length ≤ 18 := by rw [List.length_zip]; omega
        omega
      have e1 : ((C.length : Int) != ((dpF N B).length : Int)) = false := by rw [hCLF]; simp
      have e2 : (((dpF N B).length : Int) == 0) = false := beq_eq_false_iff_ne.2 (by omega)
      have w2z : IntKind.i64.wrap (2 * z) = 2 * z := IntWalk.i64_in _ (by omega)
      have w2y : IntKind.i64.wrap (2 * y) = 2 * y := IntWalk.i64_in _ (by omega)
      clear hC0 hCa hCLF hok hy
      go_upto_region 14 with (first
        | (go_at_call 14; refine (specFlowSize _ (dpA N B) (dpF N B) _ _ z (by omega) (by omega) HZ _ HS8.out.fs.arcn HS8.out.fs.fa).mono ?_; rintro e w15 ⟨rfl, hb⟩; have HS9 := Lib.hid (HS8.out.on hb); obtain ⟨c0, c1, _, _⟩ := HS9.out.fs.cells; have hr9 := (hb.cell (p := ⟨gr, 0, none⟩) hgr).trans hrc; clear hb))
      clear hr9 hrc HS8 c0 c1
      have hS4 := HS9.out.held (Below.refl _ _).drew
      go_region_held3 (fun w' => w'.cell? ⟨w1.heap.size, 0, none⟩ = some (.int .i64 (dpM N B : Int)) ∧ w'.cell? ⟨w1.heap.size, 1, none⟩ = some (.slice an (dpA N B).length cn) ∧ w'.cell? ⟨Y, 0, none⟩ = some (.int .i64 (dpM N B : Int)) ∧ w'.cell? ⟨Y, 1, none⟩ = some (.slice am (dpA N B).length cm) ∧ FS2 N B w w1.heap.size Y (.slice an (dpA N B).length cn) (.slice am (dpA N B).length cm) (.slice af (dpF N B).length cf) (.slice ag (dpF N B).length cg) (.slice ac C.length cc) C w')
        (first | exact hS | exact hS4 | (go_split_ands; exact FS2.held (by assumption) ((Below.refl _ _).alloc (Nat.le_refl _) _)) | go_keep)
        (first
          | (go_at_call 11; (try go_split_ands); have hS0 : FS2 N B w w1.heap.size Y (.slice an (dpA N B).length cn) (.slice am (dpA N B).length cm) (.slice af (dpF N B).length cf) (.slice ag (dpF N B).length cg) (.slice ac C.length cc) C _ := (by assumption); (with_reducible refine (implFlowSize _ (dpA N B) C _ _ (2 * z) (by omega) (by omega) HZ2 _ hS0.fs.arcn ?_).mono ?_); (focus ((repeat (with_reducible (first | assumption | refine ints_drew ?_ | refine ints_alloc _ ?_))); done)); rintro e w21 ⟨rfl, hb⟩; (try go_split_ands); have hS := FS2.held hS0 hb; clear hb)
          | (go_at_call 16; (try go_split_ands); have hS0 : FS2 N B w w1.heap.size Y (.slice an (dpA N B).length cn) (.slice am (dpA N B).length cm) (.slice af (dpF N B).length cf) (.slice ag (dpF N B).length cg) (.slice ac C.length cc) C _ := (by assumption); (with_reducible refine (implFlowCost _ (dpA N B) C _ _ (2 * y) (by omega) (by omega) HY2 _ hS0.fs.arcn ?_).mono ?_); (focus ((repeat (with_reducible (first | assumption | refine ints_drew ?_ | refine ints_alloc _ ?_))); done)); rintro e w22 ⟨rfl, hb⟩; (try go_split_ands); have hS := FS2.held hS0 hb; clear hb)
          | (go_at_call 16; (try go_split_ands); have hS0 : FS2 N B w w1.heap.size Y (.slice an (dpA N B).length cn) (.slice am (dpA N B).length cm) (.slice af (dpF N B).length cf) (.slice ag (dpF N B).length cg) (.slice ac C.length cc) C _ := (by assumption); (with_reducible refine (implFlowCost _ (dpA N B) (dpF N B) _ _ y (by omega) (by omega) HY _ hS0.fs.arcn ?_).mono ?_); (focus ((repeat (with_reducible (first | assumption | refine ints_drew ?_ | refine ints_alloc _ ?_))); done)); rintro e w23 ⟨rfl, hb⟩; (try go_split_ands); have hS := FS2.held hS0 hb; clear hb)
          | ((try go_split_ands); rw [if_pos (by rfl)]; have hS0 : FS2 N B w w1.heap.size Y (.slice an (dpA N B).length cn) (.slice am (dpA N B).length cm) (.slice af (dpF N B).length cf) (.slice ag (dpF N B).length cg) (.slice ac C.length cc) C _ := (by assumption); refine wp_copy _ _ rfl _ rfl _ C rfl hS0.cc (by omega) ?_; intro v24 w24 hv24 hb; have hS := FS2.held hS0 hb; clear hb)
          | ((try go_split_ands); rw [if_pos (by rfl)]; have hS0 : FS2 N B w w1.heap.size Y (.slice an (dpA N B).length cn) (.slice am (dpA N B).length cm) (.slice af (dpF N B).length cf) (.slice ag (dpF N B).length cg) (.slice ac C.length cc) C _ := (by assumption); refine wp_copy _ _ rfl _ rfl _ (dpF N B) rfl hS0.fs.fa (by omega) ?_; intro v25 w25 hv25 hb; have hS := FS2.held hS0 hb; clear hb))
      all_goals
        go_wp2_with fail
        go_ret
        exact ⟨by simp, hS.2.2.2.2.fs.below⟩

set_option maxRecDepth 100000 in
theorem walk_big (N : Nat) (B : Nat → Int) (v : Value) (hN : N ≤ maxLen) (w : World) (hc : CodeF w v N B w.heap.size) (h : 1048576 < N) :
    Calls Try.prog 3 #[v] w fun e w' => e = .returned (.bool true) ∧ Below w.heap.size w w' := by
  go_enter Try.func3, Try.ntmps3
  go_wp2_with fail
  refine (bigYes N _ B v w hN hc h).mono ?_
  rintro e w' ⟨rfl, rfl⟩
  go_wp2_with fail
  go_ret
  exact ⟨rfl, Below.refl _ _⟩

theorem walk (v : Value) (N : Nat) (w : World) (hc : CodeB w v N w.heap.size) (hN : N ≤ maxLen) :
    Calls Try.prog 3 #[v] w fun e w' => e = .returned (.bool true) ∧ Below w.heap.size w w' := by
  obtain ⟨B, hF⟩ := code_of hc
  rcases Nat.lt_or_ge 1048576 N with h | h
  · exact walk_big N B v hN w hF h
  · exact walk_in N B v h w hF
-- LIFT
set_option maxRecDepth 100000 in
theorem lifted (os : Os) (started : os.Started) (H : Type) (enc : TypeId × Value → H) :
    ReturnsInHanded {} Try.checked os 3 .any (Rows.fnFlowsSpec.pre6 enc Try.prog Try.f3 Rows.fnFlowsRow.domain false) (Rows.fnFlowsSpec.post enc Try.prog Try.f3 false true false false) := by
  refine returnsInHanded_of_change (C := Try.checked) own started (by kernel_rfl) Try.func3
    (ChangeSpec.witness6 (enc := enc) (C := Try.checked) false ⟨#[], #[.slice none 0 0], []⟩ 8 (by kernel_rfl) (by kernel_rfl) (by kernel_rfl) (by kernel_rfl)) ?_
  intro W base args ds gs before hval0 hW hcnd _
  have hval : ∀ (j : Nat) t v, Try.f3.params[j]? = some t → args[j]? = some v → Value.okWide Try.prog W .any base t v := hval0
  have hW' := hW
  obtain ⟨p, q, hA0, hV, rfl, hfz, hnd⟩ := hW
  have hA : DataW.TrodAll enc Try.prog W 0 (fun _ => true) true Try.f3.params.toList args.toList ds p := hA0
  rw [Try.params3] at hA hval
  obtain ⟨v0, vs0, d0, ds0, p0, q0, hargs, rfl, rfl, h0, r0⟩ := trodAll_cons hA
  obtain ⟨rfl, rfl, rfl⟩ := trodAll_nil r0
  obtain rfl : args = #[v0] := by cases args; simp_all
  obtain ⟨rfl, rfl⟩ := trodVars_none hV
  obtain ⟨L0, w0, l0, again0⟩ := open_arg_bytes (hval 0 22 v0 rfl rfl) h0
  clear hA0 hval0
  simp only [List.append_nil] at hW'
  refine (walk v0 L0 W w0 l0).mono fun e W' ⟨he, hg⟩ => ?_
  subst he
  exact ⟨_, rfl, post_of_below (pa := p0 ++ ([])) (pv := []) hW' (fun _ _ _ => (trodAll_cons_mk (shut_bool Try.underlying4 _) trodAll_mk0)) (fun sp hsp => (trodAll_cons_mk (again0 W' hg sp (fun p hp => hsp p (by simp [hp]))) trodAll_mk0)) (fun _ _ => rfl) (by simp)
    hg (ok_one (by kernel_rfl) rfl (okWide_bool_mk Try.underlying4 _))⟩

theorem over : Rows.fnFlowsRow.holds Try.pinned (OpenSpec.ofChange Rows.fnFlowsSpec) :=
  OpenClaim.holds_of_wide 3 Try.f3 rfl rfl rfl rfl rfl rfl rfl ⟨rfl, rfl, rfl, rfl, rfl⟩ rfl rfl rfl rfl rfl (by kernel_rfl) Try.func3 (by kernel_rfl)
    (of_decide_eq_true (by kernel_rfl)) (by unfold Func.isWrapper; first | (rw [if_pos (by decide +kernel)]; kernel_rfl) | (rw [if_neg (by decide +kernel)]; exact ⟨rfl, rfl⟩))
    (fun os started H enc _ => lifted os started H enc)

theorem proved : Rows.FnFlowsSaid :=
  over

end Go.Proofs.Ytghhlojjjjnogaa.fnFlows
