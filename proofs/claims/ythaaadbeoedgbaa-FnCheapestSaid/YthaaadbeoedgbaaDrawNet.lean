/-
  CONTRACT of spec.DrawNet. No law is proved here.
-/
import Derived.Test.YthaaadbeoedgbaaDrawN
namespace Go.Proofs.Ythaaadbeoedgbaa
set_option maxRecDepth 4096
open Go.ChangeShapes Go.WideShapes Go.ChangeAt Go.RowKit

set_option maxHeartbeats 4000000 in
theorem drawNet (N : Nat) (B : Nat → Int) (v : Value) (w : World) (hN : N ≤ 9000000000000000) (hc : CodeF w v N B w.heap.size) :
    Calls Try.prog 7 #[v] w (DrawnN N B w) := by
  have hb0 := (Below.refl w.heap.size w).alloc (Nat.le_refl _) (.cells #[.int .i64 0, .slice none 0 0] 26)
  have hc0 := Lib.hid ((hc.below hb0).up (Nat.le_succ _))
  have HB0 := Lib.hid hb0
  have hR0 := Lib.hid (heap_alloc_new w (.cells #[.int .i64 0, .slice none 0 0] 26))
  have hs0 := Lib.hid (World.size_alloc w (.cells #[.int .i64 0, .slice none 0 0] 26))
  clear hb0 hc
  go_enter Try.func7, Try.ntmps7
  go_wp2_with fail
  generalize w.alloc (.cells #[.int .i64 0, .slice none 0 0] 26) = w0 at hc0 HB0 hR0 hs0 ⊢
  refine (newF N B v w0 hN (by rw [hs0.out]; exact hc0.out)).mono ?_
  rintro e w1 ⟨rfl, hcur1, hb1⟩
  rw [hs0.out] at hcur1
  have hwg : w.heap.size + 1 < w1.heap.size := (Array.getElem?_eq_some_iff.1 hcur1).1
  have hcode1 := hc0.out.below hb1
  have hR1 : w1.heap[w.heap.size]? = some (.cells #[.int .i64 0, .slice none 0 0] 26) := (hb1.block _ (by have := hs0.out; omega)).trans hR0.out
  have HB1 := Lib.hid (HB0.out.trans (hb1.mono HB0.out.size))
  have HC1 := Lib.hid hcur1
  have HK1 := Lib.hid hcode1
  have HR1 := Lib.hid hR1
  have hst : (startD N B).i ≤ N := Nat.zero_le _
  clear hcur1 hcode1 hR1 hb1 HB0 hc0 hR0
  rw [hs0.out]
  go_wp2_with fail
  refine (rightF (w.heap.size + 1) N B v (startD N B) w1 hN hst HK1.out HC1.out).mono ?_
  rintro e w2 ⟨va, rfl, hown, hcur2, hg2⟩
  obtain ⟨av, cv, rfl⟩ := own_slice hown
  rw [show (rightP N B (startD N B)).1 = dpA N B from rfl] at hown ⊢
  rw [dpM_is]
  have hw2 := hg2.size
  have hR2 : w2.heap[w.heap.size]? = some (.cells #[.int .i64 0, .slice none 0 0] 26) := (hg2.block _ (by omega) (fun e => by have := Option.some.inj e; omega)).trans HR1.out
  have HB2 := Lib.hid (HB1.out.grown hg2 HB1.out.size (fun j e => by have := Option.some.inj e; omega))
  have HA2 := Lib.hid hown
  have HR2 := Lib.hid hR2
  have r0 : w2.cell? ⟨w.heap.size, 0, none⟩ = some (.int .i64 0) := (cell_of_row w2 w.heap.size 0 _ _ _ hR2).trans rfl
  have r1 : w2.cell? ⟨w.heap.size, 1, none⟩ = some (.slice none 0 0) := (cell_of_row w2 w.heap.size 1 _ _ _ hR2).trans rfl
  have f0 := frozen_of_row w2 w.heap.size 0 _ _ hR2
  have f1 := frozen_of_row w2 w.heap.size 1 _ _ hR2
  clear hown hcur2 hg2 hR2 HC1 HK1 HR1 HB1
  go_wp2_with fail
  have hrow := heap_setCell_same _ w.heap.size 1 _ _ (.slice av (dpA N B).length cv) (heap_setCell_same w2 w.heap.size 0 _ _ (.int .i64 (dpM N B : Int)) HR2.out)
  have q0 : ((w2.setCell ⟨w.heap.size, 0, none⟩ (.int .i64 (dpM N B : Int))).setCell ⟨w.heap.size, 1, none⟩ (.slice av (dpA N B).length cv)).cell? ⟨w.heap.size, 0, none⟩ = some (.int .i64 (dpM N B : Int)) := (cell_of_row _ w.heap.size 0 _ _ _ hrow).trans rfl
  have q1 : ((w2.setCell ⟨w.heap.size, 0, none⟩ (.int .i64 (dpM N B : Int))).setCell ⟨w.heap.size, 1, none⟩ (.slice av (dpA N B).length cv)).cell? ⟨w.heap.size, 1, none⟩ = some (.slice av (dpA N B).length cv) := (cell_of_row _ w.heap.size 1 _ _ _ hrow).trans rfl
  have k1 : w2.grownBy (w2.setCell ⟨w.heap.size, 0, none⟩ (.int .i64 (dpM N B : Int))) (some w.heap.size) := ⟨rfl, rfl, rfl, by simp [World.setCell], fun i _ hne => heap_setCell_other _ _ _ _ (fun e => hne (by rw [e]))⟩
  have k2 : (w2.setCell ⟨w.heap.size, 0, none⟩ (.int .i64 (dpM N B : Int))).grownBy ((w2.setCell ⟨w.heap.size, 0, none⟩ (.int .i64 (dpM N B : Int))).setCell ⟨w.heap.size, 1, none⟩ (.slice av (dpA N B).length cv)) (some w.heap.size) := ⟨rfl, rfl, rfl, by simp [World.setCell], fun i _ hne => heap_setCell_other _ _ _ _ (fun e => hne (by rw [e]))⟩
  have k3 := grown_onF k1 k2
  refine bodyPost_ret (v := .agg #[.int .i64 (dpM N B : Int), .slice av (dpA N B).length cv]) ?_ rfl ?_
  · simp [results, Try.results7, go_sem, q0, q1]
  · refine ⟨_, rfl, arcs_of_own (HA2.out.kept k3 ?_), HB2.out.grown k3 HB2.out.size (fun j e => Nat.le_of_eq (Option.some.inj e))⟩
    cases hv : (Value.slice av (dpA N B).length cv).ownBlock with
    | none => exact .inl rfl
    | some k => exact .inr (fun e => by have := (HA2.out.lt k hv).1; have := Option.some.inj e; omega)

end Go.Proofs.Ythaaadbeoedgbaa
