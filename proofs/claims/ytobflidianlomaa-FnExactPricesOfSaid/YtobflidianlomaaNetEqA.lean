/-
  CONTRACTS of the laws' own helpers eqNet, markNet. No law is proved here.
-/
import Derived.Test.YtobflidianlomaaArcRow
import Derived.BigQuiet
import Derived.Deep.QuietTactic
import Derived.StillTailTactics
namespace Go.Proofs.Ytobflidianlomaa
set_option maxRecDepth 4096
open Go.ChangeShapes Go.WideShapes Go.ChangeAt Go.RowKit

theorem eqArc (x : ArcD) (w : World) : Calls Try.prog 60 #[.agg #[.int .i64 x.f, .int .i64 x.t, .int .i64 x.r, .int .i64 x.c], .agg #[.int .i64 x.f, .int .i64 x.t, .int .i64 x.r, .int .i64 x.c]] w (Made w (.bool true)) := by
  go_enter Try.func60, Try.ntmps60
  go_wp2
  go_ret
  exact ⟨rfl, ((Below.refl _ _).alloc (Nat.le_refl _) _).alloc (by simp) _⟩

set_option maxHeartbeats 1000000 in
theorem eqArcs (v1 v2 : Value) (A : List ArcD) (w : World) (h1 : Arcs w v1 A) (h2 : Arcs w v2 A) (hA : A.length ≤ 2000000) :
    Calls Try.prog 45 #[v1, v2] w (Made w (.bool true)) := by
  obtain ⟨a1, c1, rfl, H1⟩ := arcs_form h1
  obtain ⟨a2, c2, rfl, H2⟩ := arcs_form h2
  have HH1 := Lib.hid H1
  have HH2 := Lib.hid H2
  clear H1 H2 h1 h2
  go_enter Try.func45, Try.ntmps45
  go_wp2
  go_loopw [5] (fun i wr => ∃ k : Nat, k ≤ A.length ∧ i = .int .i64 k ∧ Below w.heap.size w wr) (fun i _ => A.length - (intOf i).toNat)
  case atStart => exact ⟨0, Nat.zero_le _, rfl, Below.refl _ _⟩
  case round =>
    obtain ⟨k, hk, rfl, hB⟩ := hrel
    by_cases hlt : k < A.length
    · obtain ⟨x, hx⟩ : ∃ x, A[k]? = some x := ⟨_, List.getElem?_eq_getElem hlt⟩
      rcases HH1.out with h0 | ⟨g1, rfl, hg1, hc1⟩
      · omega
      · rcases HH2.out with h0 | ⟨g2, rfl, hg2, hc2⟩
        · omega
        · obtain ⟨p0, p1, p2, p3⟩ := hc1 k x hx
          obtain ⟨q0, q1, q2, q3⟩ := hc2 k x hx
          have d0 := (hB.cell (p := ⟨g1, _, none⟩) hg1).trans p0
          have d1 := (hB.cell (p := ⟨g1, _, none⟩) hg1).trans p1
          have d2 := (hB.cell (p := ⟨g1, _, none⟩) hg1).trans p2
          have d3 := (hB.cell (p := ⟨g1, _, none⟩) hg1).trans p3
          have e0 := (hB.cell (p := ⟨g2, _, none⟩) hg2).trans q0
          have e1 := (hB.cell (p := ⟨g2, _, none⟩) hg2).trans q1
          have e2 := (hB.cell (p := ⟨g2, _, none⟩) hg2).trans q2
          have e3 := (hB.cell (p := ⟨g2, _, none⟩) hg2).trans q3
          have hlt2 : (k : Int) < (A.length : Int) := by omega
          have HB2 := Lib.hid hB.drew
          clear p0 p1 p2 p3 q0 q1 q2 q3 hc1 hc2 hx hB
          go_wp2_with fail
          go_still_tail 8, (by kernel_rfl)
          change wpList _ _ _ _ _ wr.drew
          go_wp2_with (go_at_call 60; (with_reducible refine (eqArc x _).mono ?_); rintro e w' ⟨rfl, hb⟩; have HB3 := Lib.hid (HB2.out.trans (hb.mono HB2.out.size)); clear hb)
          go_roundw
          case rel => exact ⟨k + 1, by omega, by go_num, HB3.out⟩
          case measure => simp [intOf]; omega
    · obtain rfl : k = A.length := by omega
      go_wp2_with fail
      go_ret
      exact ⟨rfl, hB⟩

theorem eqNet (N : Int) (v1 v2 : Value) (A : List ArcD) (w : World) (h1 : Arcs w v1 A) (h2 : Arcs w v2 A) (hA : A.length ≤ 2000000) :
    Calls Try.prog 20 #[.agg #[.int .i64 N, v1], .agg #[.int .i64 N, v2]] w (Made w (.bool true)) := by
  have hB := ((Below.refl w.heap.size w).alloc (Nat.le_refl _) (.cells #[.int .i64 N, v1] 26)).alloc (by simp) (.cells #[.int .i64 N, v2] 26)
  have H1 := Lib.hid (arcs_on h1 hB)
  have H2 := Lib.hid (arcs_on h2 hB)
  clear h1 h2
  go_enter Try.func20, Try.ntmps20
  go_wp2_with fail
  refine (eqArcs v1 v2 A _ H1.out H2.out hA).mono ?_
  rintro e w3 ⟨rfl, hb⟩
  have hB3 := hB.trans (hb.mono hB.size)
  clear hb hB
  go_wp2_with fail
  go_ret
  exact ⟨rfl, hB3⟩

/-- markArcS has written its marks into the row, and nothing else that was there. -/
def MarkedA (w : World) (B : Nat) (v : Value) (k n : Nat) (e : Ending) (w' : World) : Prop :=
  e = .returned (.int .i64 ((k + n * 4 : Nat) : Int)) ∧ (∃ xs, w'.ownsRow B 66 4 v n xs) ∧ w.grownBy w' v.ownBlock
theorem grown_set {w wr : World} {g j : Nat} {u : Value} (h : w.grownBy wr (some g)) : w.grownBy (wr.setCell ⟨g, j, none⟩ u) (some g) :=
  ⟨h.os, h.tape, h.output, by simpa [World.setCell] using h.size, fun i hi hne => (heap_setCell_other wr ⟨g, j, none⟩ i u (fun e => hne (by simp [e]))).trans (h.block i hi hne)⟩

set_option maxHeartbeats 1000000 in
theorem markArcs (v : Value) (B k n : Nat) (xs : List Value) (w : World) (hown : w.ownsRow B 66 4 v n xs) (hn : k + n * 4 ≤ 9000000) :
    Calls Try.prog 46 #[v, .int .i64 k] w (MarkedA w B v k n) := by
  by_cases h0 : n = 0
  · subst h0
    obtain ⟨a, c, rfl⟩ := own_form hown
    go_enter Try.func46, Try.ntmps46
    go_wp2
    refine wp_loop_rounds 1 ?_
    rw [rounds_succ]
    go_wp2
    go_ret
    exact ⟨ret_int (by omega), ⟨_, hown⟩, World.grownBy.refl _ _⟩
  · obtain ⟨g, c, rfl⟩ : ∃ g c, v = .slice (some ⟨g, 0, none⟩) n c := by
      rcases hown.2 with ⟨_, h⟩ | ⟨g, cap, cur, rfl, _⟩
      · exact absurd h h0
      · exact ⟨g, cap, rfl⟩
    clear h0
    go_enter Try.func46, Try.ntmps46
    go_wp2
    go_loopw [1, 5] (fun a i wr => ∃ j : Nat, j ≤ n ∧ a = .int .i64 ((k + j * 4 : Nat) : Int) ∧ i = .int .i64 j ∧ (∃ xs, wr.ownsRow B 66 4 (.slice (some ⟨g, 0, none⟩) n c) n xs) ∧ w.grownBy wr (some g)) (fun _ i _ => n - (intOf i).toNat)
    case atStart => exact ⟨0, Nat.zero_le _, by simp, rfl, ⟨_, hown⟩, World.grownBy.refl _ _⟩
    case round =>
      clear hown
      obtain ⟨j, hj, rfl, rfl, ⟨xs, hown⟩, hgr⟩ := hrel
      by_cases hlt : j < n
      · have hlt2 : (j : Int) < (n : Int) := by omega
        obtain ⟨u0, f0⟩ := own_cell4 hown (j := j * 4) (by omega)
        obtain ⟨u1, f1⟩ := own_cell4 hown (j := j * 4 + 1) (by omega)
        obtain ⟨u2, f2⟩ := own_cell4 hown (j := j * 4 + 2) (by omega)
        obtain ⟨u3, f3⟩ := own_cell4 hown (j := j * 4 + 3) (by omega)
        have z0 := hown.frozenAt (j * 4)
        have z1 := hown.frozenAt (j * 4 + 1)
        have z2 := hown.frozenAt (j * 4 + 2)
        have z3 := hown.frozenAt (j * 4 + 3)
        have HO := Lib.hid hown
        have HG := Lib.hid hgr
        clear hown hgr
        go_wp2
        go_roundw
        case rel => exact ⟨j + 1, by omega, by congr 1; omega, by go_num, ⟨_, ((((HO.out.stored _ _).1.stored _ _).1.stored _ _).1.stored _ _).1⟩, grown_set (grown_set (grown_set (grown_set HG.out)))⟩
        case measure => simp [intOf]; omega
      · obtain rfl : j = n := by omega
        go_wp2
        go_ret
        exact ⟨rfl, ⟨_, hown⟩, hgr⟩

theorem markNet (N : Int) (v : Value) (B k n : Nat) (xs : List Value) (w : World) (hown : w.ownsRow B 66 4 v n xs) (hn : k + n * 4 ≤ 9000000) :
    Calls Try.prog 21 #[.agg #[.int .i64 N, v], .int .i64 k] w (MarkedA w B v k n) := by
  have hown1 := Lib.hid (hown.alloc (.cells #[.int .i64 N, v] 26))
  obtain ⟨a, c, rfl⟩ := own_form hown
  clear hown
  go_enter Try.func21, Try.ntmps21
  go_wp2_with fail
  refine (markArcs _ B k n xs _ hown1.out hn).mono ?_
  rintro e w3 ⟨rfl, h1, hg⟩
  have hg2 := (World.grownBy_alloc w (.cells #[.int .i64 N, .slice a n c] 26) (Value.slice a n c).ownBlock).trans hg
  clear hg
  go_wp2_with fail
  go_ret
  exact ⟨rfl, h1, hg2⟩

end Go.Proofs.Ytobflidianlomaa
