/-
  CONTRACT of spec.LeastCost. No law is proved here.
-/
import Derived.Test.YthaaadbeoedgbaaSpecCheap
namespace Go.Proofs.Ythaaadbeoedgbaa
set_option maxRecDepth 4096
open Go.ChangeShapes Go.WideShapes Go.ChangeAt Go.RowKit

theorem specLeast (N : Int) (A : List ArcD) (K : Int) (v : Value) (z : Int) (hA : A.length ≤ 2000000) (HZ : Hid (leastV N A K = z)) (w : World) (hv : Arcs w v A) :
    Calls Try.prog 22 #[.agg #[.int .i64 N, v], .int .i64 K] w (Made w (.int .i64 z)) := by
  have hB := Below.refl (w.alloc (.cells #[.int .i64 N, v] 26)).heap.size (w.alloc (.cells #[.int .i64 N, v] 26))
  obtain ⟨c0, c1⟩ := net_cells hB
  have HV := Lib.hid hv
  obtain ⟨R, HR⟩ : ∃ R, Hid (cheapL N A K = R) := ⟨_, rfl⟩
  obtain ⟨zc, HC⟩ : ∃ z, Hid (cheapC N A K = z) := ⟨_, rfl⟩
  clear hv
  cases hb : cheapB N A K with
  | false =>
    have HB := Lib.hid hb
    have e : z = -1 := by rw [← HZ.out]; exact if_neg (by rw [hb]; simp)
    subst e
    clear hb
    go_enter Try.func22, Try.ntmps22
    go_wp2_with fail
    refine (specCheap N A K _ R zc false hA HR HC HB _ (arcs_on HV.out (below_box hB))).mono ?_
    rintro e w1 ⟨vr, rfl, _, hb⟩
    replace hB := next_below hB hb
    clear hb c0 c1
    go_wp2_with fail
    go_ret
    exact ⟨rfl, below_box hB⟩
  | true =>
    have HB := Lib.hid hb
    have e : zc = z := by rw [← HZ.out, ← HC.out]; exact (if_pos hb).symm
    subst e
    clear hb
    go_enter Try.func22, Try.ntmps22
    go_wp2_with fail
    refine (specCheap N A K _ R zc true hA HR HC HB _ (arcs_on HV.out (below_box hB))).mono ?_
    rintro e w1 ⟨vr, rfl, _, hb⟩
    replace hB := next_below hB hb
    clear hb c0 c1
    go_wp2_with fail
    go_ret
    exact ⟨rfl, below_box hB⟩

end Go.Proofs.Ythaaadbeoedgbaa
