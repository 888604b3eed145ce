/-
  CONTRACT of spec.DrawPushed: the drawn network and the flow pushed through it. No law is proved here.
-/
import Derived.Test.YtobflidianlomaaDrawN
import Derived.Test.YtobflidianlomaaSpecPush
import Derived.Laws.ResultCell
namespace Go.Proofs.Ytobflidianlomaa
set_option maxRecDepth 4096
open Go.ChangeShapes Go.WideShapes Go.ChangeAt Go.RowKit

/-- How much is pushed, the flow. -/
def dpK (N : Nat) (B : Nat → Int) : Nat := ((rightP N B (startD N B)).2.few N B 9).toNat
def dpF (N : Nat) (B : Nat → Int) : List Int := pushedV (dpA N B) (dpM N B) (dpK N B)

/-- What the region of DrawPushed holds between its operations: the result's cell, the network's cell, the arcs. -/
structure DPw (N : Nat) (B : Nat → Int) (w w1 : World) (X : Nat) (va : Value) (wx : World) : Prop where
  res : wx.heap[w.heap.size]? = some (.cells #[.int .i64 0, .slice none 0 0] 26)
  box : wx.heap[X]? = some (.cells #[.int .i64 (dpM N B : Int), va] 26)
  own : wx.ownsRow w1.heap.size 66 4 va (dpA N B).length (cellsA (dpA N B))
  below : Below w.heap.size w wx
theorem DPw.cells {N : Nat} {B : Nat → Int} {w w1 wx : World} {X : Nat} {va : Value} (h : DPw N B w w1 X va wx) : wx.cell? ⟨X, 0, none⟩ = some (.int .i64 (dpM N B : Int)) ∧ wx.cell? ⟨X, 1, none⟩ = some va := by
  refine ⟨?_, ?_⟩ <;> rw [cell_of_row _ _ _ _ _ _ h.box] <;> rfl
theorem DPw.grown {N : Nat} {B : Nat → Int} {w w1 wx wy : World} {X : Nat} {va : Value} {r : Option Nat} (h : DPw N B w w1 X va wx) (g : wx.grownBy wy r) (hr : ∀ j, r = some j → w.heap.size < j ∧ j < w1.heap.size ∧ j ≠ X) : DPw N B w w1 X va wy := by
  refine ⟨(g.block _ (Array.getElem?_eq_some_iff.1 h.res).1 (fun e => by have := hr _ e.symm; omega)).trans h.res, (g.block _ (Array.getElem?_eq_some_iff.1 h.box).1 (fun e => (hr _ e.symm).2.2 rfl)).trans h.box, h.own.kept g ?_, h.below.grown g h.below.size (fun j e => by have := hr j e; omega)⟩
  cases hv : va.ownBlock with
  | none => exact .inl rfl
  | some k => exact .inr (fun e => by have := (h.own.lt k hv).1; have := hr k e.symm; omega)

/-- What DrawPushed hands back. -/
def DrawnP (N : Nat) (B : Nat → Int) (w : World) (e : Ending) (w' : World) : Prop :=
  ∃ va vf, e = .returned (.tuple #[.agg #[.int .i64 (dpM N B : Int), va], vf]) ∧ Arcs w' va (dpA N B) ∧ Ints w' vf (dpF N B) ∧ Below w.heap.size w w'

set_option maxHeartbeats 4000000 in
theorem drawP (N : Nat) (B : Nat → Int) (v : Value) (w : World) (hN : N ≤ 9000000000000000) (hc : CodeF w v N B w.heap.size) :
    Calls Try.prog 8 #[v] w (DrawnP N B w) := by
  have hb0 := (Below.refl w.heap.size w).alloc (Nat.le_refl _) (.cells #[.int .i64 0, .slice none 0 0] 26)
  have hc0 := Lib.hid ((hc.below hb0).up (Nat.le_succ _))
  have HB0 := Lib.hid hb0
  have hR0 := Lib.hid (heap_alloc_new w (.cells #[.int .i64 0, .slice none 0 0] 26))
  have hs0 := Lib.hid (World.size_alloc w (.cells #[.int .i64 0, .slice none 0 0] 26))
  clear hb0 hc
  go_enter Try.func8, Try.ntmps8
  go_wp2_with fail
  generalize w.alloc (.cells #[.int .i64 0, .slice none 0 0] 26) = w0 at hc0 HB0 hR0 hs0 ⊢
  refine (newF N B v w0 hN (by rw [hs0.out]; exact hc0.out)).mono ?_
  rintro e w1 ⟨rfl, hcur1, hb1⟩
  rw [hs0.out] at hcur1
  have hwg : w.heap.size + 1 < w1.heap.size := (Array.getElem?_eq_some_iff.1 hcur1).1
  have hcode1 := hc0.out.below hb1
  have hR1 : w1.heap[w.heap.size]? = some (.cells #[.int .i64 0, .slice none 0 0] 26) := (hb1.block _ (by have := hs0.out; omega)).trans hR0.out
  have HB1 := Lib.hid (HB0.out.trans (hb1.mono HB0.out.size))
  have HC1 := Lib.hid hcur1
  have HK1 := Lib.hid hcode1
  have HR1 := Lib.hid hR1
  have hst : (startD N B).i ≤ N := Nat.zero_le _
  clear hcur1 hcode1 hR1 hb1 HB0 hc0 hR0
  rw [hs0.out]
  go_wp2_with fail
  refine (rightF (w.heap.size + 1) N B v (startD N B) w1 hN hst HK1.out HC1.out).mono ?_
  rintro e w2 ⟨va, rfl, hown, hcur2, hg2⟩
  obtain ⟨av, cv, rfl⟩ := own_slice hown
  rw [show (rightP N B (startD N B)).1 = dpA N B from rfl] at hown ⊢
  rw [dpM_is]
  have hw2 := hg2.size
  have hcode2 := HK1.out.turn hg2
  have hR2 : w2.heap[w.heap.size]? = some (.cells #[.int .i64 0, .slice none 0 0] 26) := (hg2.block _ (by omega) (fun e => by have := Option.some.inj e; omega)).trans HR1.out
  have HB2 := Lib.hid (HB1.out.grown hg2 HB1.out.size (fun j e => by have := Option.some.inj e; omega))
  have hb3 := (Below.refl w2.heap.size w2).alloc (Nat.le_refl _) (.cells #[.int .i64 (dpM N B : Int), .slice av (dpA N B).length cv] 26)
  have HC3 := Lib.hid (hcur2.below hb3)
  have HK3 := Lib.hid (hcode2.below hb3)
  have HA3 := Lib.hid (hown.kept (below_grownP hb3) (ne_noneP _))
  have HR3 := Lib.hid ((hb3.block _ (by omega)).trans hR2)
  have HX3 := Lib.hid (heap_alloc_new w2 (.cells #[.int .i64 (dpM N B : Int), .slice av (dpA N B).length cv] 26))
  have HB3 := Lib.hid (HB2.out.trans (hb3.mono HB2.out.size))
  clear hown hcur2 hg2 hcode2 hR2 hb3 HB2 HC1 HK1 HR1 HB1
  go_upto_region 3 with fail
  generalize w2.alloc (.cells #[.int .i64 (dpM N B : Int), .slice av (dpA N B).length cv] 26) = w3 at HC3 HK3 HA3 HR3 HX3 HB3 ⊢
  have hD3 : DPw N B w w1 w2.heap.size (.slice av (dpA N B).length cv) w3.drew := ⟨HR3.out, HX3.out, HA3.out, HB3.out.drew⟩
  have hC3 : CurF w3.drew (w.heap.size + 1) v (rightP N B (startD N B)).2 := HC3.out
  have hK3 : CodeF w3.drew v N B (w.heap.size + 1) := HK3.out
  have hX2 : w1.heap.size ≤ w2.heap.size := hw2
  have HD3 := Lib.hid hD3
  have HC3 := Lib.hid hC3
  have HK3 := Lib.hid hK3
  clear hD3 hC3 hK3 HR3 HX3 HA3 HB3
  have hS0 := HD3.out.cells
  have hle := rightP_le (N := N) (B := B) hst
  have hk0 := (rightP N B (startD N B)).2.few_in N B (n := 9) (by omega)
  have hkk : (rightP N B (startD N B)).2.few N B 9 = (dpK N B : Int) := by unfold dpK; omega
  have hK9 : dpK N B ≤ 1000000 := by omega
  rw [hkk] at hk0
  generalize w2.heap.size = X at *
  go_region_held3 (fun w' => w'.cell? ⟨X, 0, none⟩ = some (.int .i64 (dpM N B : Int)) ∧ w'.cell? ⟨X, 1, none⟩ = some (.slice av (dpA N B).length cv))
    (first | with_reducible exact hS | with_reducible exact hS0 | go_keep | exact ⟨far_two hXR hS.1, far_two hXR hS.2⟩)
    (first
      | (go_at_call 29; (with_reducible refine (fewF (w.heap.size + 1) N B v (rightP N B (startD N B)).2 9 _ hN hle HK3.out HC3.out (by omega) (by omega)).mono ?_); rintro e w5 ⟨rfl, hcur, hgr⟩; rw [hkk]; have hD5 := HD3.out.grown hgr (fun j e => by have := Option.some.inj e; omega); have hS := hD5.cells; clear hcur hgr)
      | (go_at_call 28; (with_reducible refine (specPushed (dpM N B) (dpA N B) (dpK N B) _ (dp_ok N B).1 hK9 _ (arcs_of_own hD5.own)).mono ?_); rintro e w6 ⟨vf, rfl, hownF, hb6⟩; have hD6 := hD5.grown (below_grownP hb6) (fun j e => by cases e); have hS := hD6.cells; have r0 : w6.cell? ⟨w.heap.size, 0, none⟩ = some (.int .i64 0) := (cell_of_row w6 w.heap.size 0 _ _ _ hD6.res).trans rfl; have r1 : w6.cell? ⟨w.heap.size, 1, none⟩ = some (.slice none 0 0) := (cell_of_row w6 w.heap.size 1 _ _ _ hD6.res).trans rfl; have f0 := frozen_of_row _ _ 0 _ _ hD6.res; have f1 := frozen_of_row _ _ 1 _ _ hD6.res; have hXR : w.heap.size ≠ X := by omega))
  have HD6 := Lib.hid hD6
  have h56 := hD5.below.size
  have hRl : w.heap.size < w5.heap.size := (Array.getElem?_eq_some_iff.1 hD5.res).1
  have HF6 := Lib.hid hownF
  clear hD5 hD6 hownF hb6 hS r0 r1 f0 f1 h56
  go_wp2_with fail
  have hrow := heap_setCell_same _ w.heap.size 1 _ _ (.slice av (dpA N B).length cv) (heap_setCell_same w6 w.heap.size 0 _ _ (.int .i64 (dpM N B : Int)) HD6.out.res)
  have q0 : ((w6.setCell ⟨w.heap.size, 0, none⟩ (.int .i64 (dpM N B : Int))).setCell ⟨w.heap.size, 1, none⟩ (.slice av (dpA N B).length cv)).cell? ⟨w.heap.size, 0, none⟩ = some (.int .i64 (dpM N B : Int)) := (cell_of_row _ w.heap.size 0 _ _ _ hrow).trans rfl
  have q1 : ((w6.setCell ⟨w.heap.size, 0, none⟩ (.int .i64 (dpM N B : Int))).setCell ⟨w.heap.size, 1, none⟩ (.slice av (dpA N B).length cv)).cell? ⟨w.heap.size, 1, none⟩ = some (.slice av (dpA N B).length cv) := (cell_of_row _ w.heap.size 1 _ _ _ hrow).trans rfl
  have k1 : w6.grownBy (w6.setCell ⟨w.heap.size, 0, none⟩ (.int .i64 (dpM N B : Int))) (some w.heap.size) := ⟨rfl, rfl, rfl, by simp [World.setCell], fun i _ hne => heap_setCell_other _ _ _ _ (fun e => hne (by rw [e]))⟩
  have k2 : (w6.setCell ⟨w.heap.size, 0, none⟩ (.int .i64 (dpM N B : Int))).grownBy ((w6.setCell ⟨w.heap.size, 0, none⟩ (.int .i64 (dpM N B : Int))).setCell ⟨w.heap.size, 1, none⟩ (.slice av (dpA N B).length cv)) (some w.heap.size) := ⟨rfl, rfl, rfl, by simp [World.setCell], fun i _ hne => heap_setCell_other _ _ _ _ (fun e => hne (by rw [e]))⟩
  have k3 := grown_onF k1 k2
  refine bodyPost_ret (v := .tuple #[.agg #[.int .i64 (dpM N B : Int), .slice av (dpA N B).length cv], vf]) ?_ rfl ?_
  · simp [results, Try.results8, go_sem, q0, q1]
  · refine ⟨_, vf, rfl, arcs_of_own (HD6.out.own.kept k3 ?_), ints_of_own (HF6.out.kept k3 ?_), HD6.out.below.grown k3 HD6.out.below.size (fun j e => Nat.le_of_eq (Option.some.inj e))⟩
    · cases hv : (Value.slice av (dpA N B).length cv).ownBlock with
      | none => exact .inl rfl
      | some k => exact .inr (fun e => by have := (HD6.out.own.lt k hv).1; have := Option.some.inj e; omega)
    · cases hv : vf.ownBlock with
      | none => exact .inl rfl
      | some k => exact .inr (fun e => by have := (HF6.out.lt k hv).1; have := Option.some.inj e; omega)

end Go.Proofs.Ytobflidianlomaa
