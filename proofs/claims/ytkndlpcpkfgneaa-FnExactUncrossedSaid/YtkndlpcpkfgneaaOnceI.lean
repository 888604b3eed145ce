/-
  CONTRACT of the program's eachOnce: a list that the call itself made comes back sorted, each number once, in its own memory. No law is proved here.
-/
import Derived.Test.YtkndlpcpkfgneaaOnceM
import Derived.Test.YtkndlpcpkfgneaaSortS
import Derived.Sort.OwnSortedInts
import Derived.Lib.OwnBridge
namespace Go.Proofs.Ytkndlpcpkfgneaa
set_option maxRecDepth 4096
open Go.ChangeShapes Go.WideShapes Go.ChangeAt Go.RowKit Go.Sort Go.Lib

theorem grown_putRow {w : World} {g n : Nat} (d : Array Int) : w.grownBy (putRow (Value.int .i64) (Sort.ahead w n) g 0 d) (some g) := by
  have h := grownBy_sortedI (w := w) (g := g) (n := n) (os := #[]) d
  rwa [Sort.grow_empty] at h

set_option maxHeartbeats 1000000 in
theorem implOnce (v : Value) (B : Nat) (L : List Int) (hL : L.length ≤ 100000000) (w : World) (hown : w.ownsRow B 3 1 v L.length (L.map (Value.int .i64))) :
    Calls Try.prog 51 #[v] w fun e w' => ∃ v', e = .returned v' ∧ w'.ownsRow B 3 1 v' (onceL L).length ((onceL L).map (Value.int .i64)) ∧ w.grownBy w' v.ownBlock := by
  by_cases h0 : L.length = 0
  · obtain rfl := List.eq_nil_of_length_eq_zero h0
    have e1 : onceL [] = [] := once_short (by simp)
    rw [e1]
    obtain ⟨a, c, rfl⟩ := own_form hown
    go_enter Try.func51, Try.ntmps51
    go_wp2_with fail
    refine Calls.mono (AnyM.slices_Sort_int_none Try.sortA a c _) ?_
    rintro e w1 ⟨rfl, rfl⟩
    go_wp2_with fail
    refine Calls.mono (Any.slices_Compact_int_empty Try.compA a c _) ?_
    rintro e w2 ⟨rfl, rfl⟩
    go_wp2_with fail
    go_ret
    exact ⟨_, rfl, hown, World.grownBy.refl _ _⟩
  · obtain ⟨g, cap, rfl, hB, hg, hnc, hcm, _, hH⟩ := holds_of_ownsRow hown (by
      intro e
      rcases hown.2 with ⟨_, h⟩ | ⟨g, cap, cur, rfl, _⟩
      · exact h0 h
      · cases e)
    obtain ⟨cur, hcur, hcs⟩ : ∃ cur, w.heap[g]? = some (.cells cur 3 (0, 0)) ∧ cur.size = cap * 1 := by
      rcases hown.2 with ⟨e, _⟩ | ⟨g', cap', cur, e, _, h1, _, _, h2, _⟩
      · cases e
      · injection e with e1 _ e3
        injection e1 with e1
        injection e1 with e1
        subst e1
        subst e3
        exact ⟨cur, h1, h2⟩
    obtain ⟨M, HM⟩ : ∃ M, Hid ((L.mergeSort fun x y => decide (x ≤ y)) = M) := ⟨_, rfl⟩
    have hMl : M.length = L.length := by rw [← HM.out, List.length_mergeSort]
    have HLM := Lib.hid hMl
    have HO : Hid (onceL L = Lib.compact M) := Lib.hid (by unfold onceL; rw [HM.out])
    rw [HO.out]
    have hcl : (Lib.compact M).length ≤ M.length := by
      have := once_len L
      rw [HO.out] at this
      omega
    have HCL := Lib.hid hcl
    clear hMl hcl
    go_enter Try.func51, Try.ntmps51
    go_wp2_with fail
    refine Calls.mono (AnyM.slices_Sort_int Try.sortA g 0 cap L _ hH hg (by omega)) ?_
    rintro e w1 ⟨rfl, n, os, rfl⟩
    rw [HM.out]
    have hown1 := ownsRow_sortedI (n := n) (os := os) HLM.out hB hcur hnc hcm hcs
    have hgr1 := grownBy_sortedI (w := w) (g := g) (n := n) (os := os) M.toArray
    generalize grow (putRow (Value.int .i64) (Sort.ahead w n) g 0 M.toArray) os = w1 at hown1 hgr1 ⊢
    obtain ⟨_, _, e5, _, _, _, _, _, hH1⟩ := holds_of_ownsRow hown1 (by intro e; cases e)
    injection e5 with e6 e7 e8
    injection e6 with e6
    injection e6 with e6
    subst e6
    clear e7 e8
    have HH1 := Lib.hid hH1
    have HO1 := Lib.hid hown1
    have HG1 := Lib.hid hgr1
    have HC := Lib.hid (Any.slices_Compact_int Try.compA g 0 cap M w1 HH1.out (by have := HLM.out; omega) (by have := HLM.out; omega))
    rw [HLM.out] at HC
    clear hH hown hown1 hgr1 hH1 hcur
    go_wp2_with fail
    refine Calls.mono HC.out ?_
    rintro e w2 ⟨rfl, q, rfl⟩
    have hg2 := grown_putRow (w := w1) (g := g) (n := q) (Lib.compact M ++ List.replicate (L.length - (Lib.compact M).length) 0).toArray
    have ho2 := ownsRow_putRow (enc := Value.int .i64) (q := q) (k := (Lib.compact M).length) (ys := Lib.compact M ++ List.replicate (L.length - (Lib.compact M).length) 0) HO1.out (by have := HCL.out; have := HLM.out; simp; omega) (by have := HCL.out; have := HLM.out; omega)
    rw [List.take_left' rfl] at ho2
    have HG2 := Lib.hid (HG1.out.trans hg2)
    have HO2 := Lib.hid ho2
    clear hg2 ho2 HH1 HO1 HG1
    generalize putRow (Value.int .i64) (Sort.ahead w1 q) g 0 (Lib.compact M ++ List.replicate (L.length - (Lib.compact M).length) 0).toArray = w2 at HG2 HO2 ⊢
    go_wp2_with fail
    go_ret
    exact ⟨_, rfl, HO2.out, HG2.out⟩

end Go.Proofs.Ytkndlpcpkfgneaa
