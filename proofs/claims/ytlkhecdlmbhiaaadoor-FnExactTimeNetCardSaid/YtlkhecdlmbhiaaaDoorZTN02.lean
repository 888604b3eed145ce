/-
  CONTRACTS of the laws' own helpers eqNet, markNet. No law is proved here.
  CONTRACTS of laws.markNet (what it leaves) and laws.heldNet. No law is proved here.
  What a law keeps while it calls on: its box, blocks that stay as they are, rows of memory that calls made. Plain facts; no law is proved here.
-/
import Derived.Test.YtlkhecdlmbhiaaaDoorZTN01
import Derived.BigQuiet
import Derived.Deep.QuietTactic
import Derived.StillTailTactics
import Derived.Test.YtlkhecdlmbhiaaaDoorZTN00
import Derived.Laws.OwnMore
namespace Go.Proofs.YtlkhecdlmbhiaaaDoor
set_option maxRecDepth 4096
open Go.ChangeShapes Go.WideShapes Go.ChangeAt Go.RowKit

theorem eqArc (x : ArcD) (w : World) : Calls Tryd.prog 81 #[.agg #[.int .i64 x.f, .int .i64 x.t, .int .i64 x.r, .int .i64 x.c], .agg #[.int .i64 x.f, .int .i64 x.t, .int .i64 x.r, .int .i64 x.c]] w (Made w (.bool true)) := by
  go_enter Tryd.func81, Tryd.ntmps81
  go_wp2
  go_ret
  exact ⟨rfl, ((Below.refl _ _).alloc (Nat.le_refl _) _).alloc (by simp) _⟩

set_option maxHeartbeats 1000000 in
theorem eqArcs (v1 v2 : Value) (A : List ArcD) (w : World) (h1 : Arcs w v1 A) (h2 : Arcs w v2 A) (hA : A.length ≤ 2000000) :
    Calls Tryd.prog 53 #[v1, v2] w (Made w (.bool true)) := by
  obtain ⟨a1, c1, rfl, H1⟩ := arcs_form h1
  obtain ⟨a2, c2, rfl, H2⟩ := arcs_form h2
  have HH1 := Lib.hid H1
  have HH2 := Lib.hid H2
  clear H1 H2 h1 h2
  go_enter Tryd.func53, Tryd.ntmps53
  go_wp2
  go_loopw [5] (fun i wr => ∃ k : Nat, k ≤ A.length ∧ i = .int .i64 k ∧ Below w.heap.size w wr) (fun i _ => A.length - (intOf i).toNat)
  case atStart => exact ⟨0, Nat.zero_le _, rfl, Below.refl _ _⟩
  case round =>
    obtain ⟨k, hk, rfl, hB⟩ := hrel
    by_cases hlt : k < A.length
    · obtain ⟨x, hx⟩ : ∃ x, A[k]? = some x := ⟨_, List.getElem?_eq_getElem hlt⟩
      rcases HH1.out with h0 | ⟨g1, rfl, hg1, hc1⟩
      · omega
      · rcases HH2.out with h0 | ⟨g2, rfl, hg2, hc2⟩
        · omega
        · obtain ⟨p0, p1, p2, p3⟩ := hc1 k x hx
          obtain ⟨q0, q1, q2, q3⟩ := hc2 k x hx
          have d0 := (hB.cell (p := ⟨g1, _, none⟩) hg1).trans p0
          have d1 := (hB.cell (p := ⟨g1, _, none⟩) hg1).trans p1
          have d2 := (hB.cell (p := ⟨g1, _, none⟩) hg1).trans p2
          have d3 := (hB.cell (p := ⟨g1, _, none⟩) hg1).trans p3
          have e0 := (hB.cell (p := ⟨g2, _, none⟩) hg2).trans q0
          have e1 := (hB.cell (p := ⟨g2, _, none⟩) hg2).trans q1
          have e2 := (hB.cell (p := ⟨g2, _, none⟩) hg2).trans q2
          have e3 := (hB.cell (p := ⟨g2, _, none⟩) hg2).trans q3
          have hlt2 : (k : Int) < (A.length : Int) := by omega
          have HB2 := Lib.hid hB.drew
          clear p0 p1 p2 p3 q0 q1 q2 q3 hc1 hc2 hx hB
          go_wp2_with fail
          go_still_tail 8, (by kernel_rfl)
          change wpList _ _ _ _ _ wr.drew
          go_wp2_with (go_at_call 81; (with_reducible refine (eqArc x _).mono ?_); rintro e w' ⟨rfl, hb⟩; have HB3 := Lib.hid (HB2.out.trans (hb.mono HB2.out.size)); clear hb)
          go_roundw
          case rel => exact ⟨k + 1, by omega, by go_num, HB3.out⟩
          case measure => simp [intOf]; omega
    · obtain rfl : k = A.length := by omega
      go_wp2_with fail
      go_ret
      exact ⟨rfl, hB⟩

theorem eqNet (N : Int) (v1 v2 : Value) (A : List ArcD) (w : World) (h1 : Arcs w v1 A) (h2 : Arcs w v2 A) (hA : A.length ≤ 2000000) :
    Calls Tryd.prog 19 #[.agg #[.int .i64 N, v1], .agg #[.int .i64 N, v2]] w (Made w (.bool true)) := by
  have hB := ((Below.refl w.heap.size w).alloc (Nat.le_refl _) (.cells #[.int .i64 N, v1] 32)).alloc (by simp) (.cells #[.int .i64 N, v2] 32)
  have H1 := Lib.hid (arcs_on h1 hB)
  have H2 := Lib.hid (arcs_on h2 hB)
  clear h1 h2
  go_enter Tryd.func19, Tryd.ntmps19
  go_wp2_with fail
  refine (eqArcs v1 v2 A _ H1.out H2.out hA).mono ?_
  rintro e w3 ⟨rfl, hb⟩
  have hB3 := hB.trans (hb.mono hB.size)
  clear hb hB
  go_wp2_with fail
  go_ret
  exact ⟨rfl, hB3⟩

/-- markArcS has written its marks into the row, and nothing else that was there. -/
def MarkedA (w : World) (B : Nat) (v : Value) (k n : Nat) (e : Ending) (w' : World) : Prop :=
  e = .returned (.int .i64 ((k + n * 4 : Nat) : Int)) ∧ (∃ xs, w'.ownsRow B 72 4 v n xs) ∧ w.grownBy w' v.ownBlock
theorem grown_set {w wr : World} {g j : Nat} {u : Value} (h : w.grownBy wr (some g)) : w.grownBy (wr.setCell ⟨g, j, none⟩ u) (some g) :=
  ⟨h.os, h.tape, h.output, by simpa [World.setCell] using h.size, fun i hi hne => (heap_setCell_other wr ⟨g, j, none⟩ i u (fun e => hne (by simp [e]))).trans (h.block i hi hne)⟩

set_option maxHeartbeats 1000000 in
theorem markArcs (v : Value) (B k n : Nat) (xs : List Value) (w : World) (hown : w.ownsRow B 72 4 v n xs) (hn : k + n * 4 ≤ 9000000) :
    Calls Tryd.prog 54 #[v, .int .i64 k] w (MarkedA w B v k n) := by
  by_cases h0 : n = 0
  · subst h0
    obtain ⟨a, c, rfl⟩ := own_form hown
    go_enter Tryd.func54, Tryd.ntmps54
    go_wp2
    refine wp_loop_rounds 1 ?_
    rw [rounds_succ]
    go_wp2
    go_ret
    exact ⟨ret_int (by omega), ⟨_, hown⟩, World.grownBy.refl _ _⟩
  · obtain ⟨g, c, rfl⟩ : ∃ g c, v = .slice (some ⟨g, 0, none⟩) n c := by
      rcases hown.2 with ⟨_, h⟩ | ⟨g, cap, cur, rfl, _⟩
      · exact absurd h h0
      · exact ⟨g, cap, rfl⟩
    clear h0
    go_enter Tryd.func54, Tryd.ntmps54
    go_wp2
    go_loopw [1, 5] (fun a i wr => ∃ j : Nat, j ≤ n ∧ a = .int .i64 ((k + j * 4 : Nat) : Int) ∧ i = .int .i64 j ∧ (∃ xs, wr.ownsRow B 72 4 (.slice (some ⟨g, 0, none⟩) n c) n xs) ∧ w.grownBy wr (some g)) (fun _ i _ => n - (intOf i).toNat)
    case atStart => exact ⟨0, Nat.zero_le _, by simp, rfl, ⟨_, hown⟩, World.grownBy.refl _ _⟩
    case round =>
      clear hown
      obtain ⟨j, hj, rfl, rfl, ⟨xs, hown⟩, hgr⟩ := hrel
      by_cases hlt : j < n
      · have hlt2 : (j : Int) < (n : Int) := by omega
        obtain ⟨u0, f0⟩ := own_cell4 hown (j := j * 4) (by omega)
        obtain ⟨u1, f1⟩ := own_cell4 hown (j := j * 4 + 1) (by omega)
        obtain ⟨u2, f2⟩ := own_cell4 hown (j := j * 4 + 2) (by omega)
        obtain ⟨u3, f3⟩ := own_cell4 hown (j := j * 4 + 3) (by omega)
        have z0 := hown.frozenAt (j * 4)
        have z1 := hown.frozenAt (j * 4 + 1)
        have z2 := hown.frozenAt (j * 4 + 2)
        have z3 := hown.frozenAt (j * 4 + 3)
        have HO := Lib.hid hown
        have HG := Lib.hid hgr
        clear hown hgr
        go_wp2
        go_roundw
        case rel => exact ⟨j + 1, by omega, by congr 1; omega, by go_num, ⟨_, ((((HO.out.stored _ _).1.stored _ _).1.stored _ _).1.stored _ _).1⟩, grown_set (grown_set (grown_set (grown_set HG.out)))⟩
        case measure => simp [intOf]; omega
      · obtain rfl : j = n := by omega
        go_wp2
        go_ret
        exact ⟨rfl, ⟨_, hown⟩, hgr⟩

theorem markNet (N : Int) (v : Value) (B k n : Nat) (xs : List Value) (w : World) (hown : w.ownsRow B 72 4 v n xs) (hn : k + n * 4 ≤ 9000000) :
    Calls Tryd.prog 22 #[.agg #[.int .i64 N, v], .int .i64 k] w (MarkedA w B v k n) := by
  have hown1 := Lib.hid (hown.alloc (.cells #[.int .i64 N, v] 32))
  obtain ⟨a, c, rfl⟩ := own_form hown
  clear hown
  go_enter Tryd.func22, Tryd.ntmps22
  go_wp2_with fail
  refine (markArcs _ B k n xs _ hown1.out hn).mono ?_
  rintro e w3 ⟨rfl, h1, hg⟩
  have hg2 := (World.grownBy_alloc w (.cells #[.int .i64 N, .slice a n c] 32) (Value.slice a n c).ownBlock).trans hg
  clear hg
  go_wp2_with fail
  go_ret
  exact ⟨rfl, h1, hg2⟩

end Go.Proofs.YtlkhecdlmbhiaaaDoor

namespace Go.Proofs.YtlkhecdlmbhiaaaDoor
set_option maxRecDepth 4096
open Go.ChangeShapes Go.WideShapes Go.ChangeAt Go.RowKit

/-- What marking leaves: the numbers from k on, four an arc. -/
def MarkedN (w : World) (B : Nat) (v : Value) (k n : Nat) (e : Ending) (w' : World) : Prop :=
  e = .returned (.int .i64 ((k + n * 4 : Nat) : Int)) ∧ w'.ownsRow B 72 4 v n ((nums k (n * 4)).map (Value.int .i64)) ∧ w.grownBy w' v.ownBlock

set_option maxHeartbeats 1000000 in
theorem markArcsN (v : Value) (B k n : Nat) (xs : List Value) (w : World) (hown : w.ownsRow B 72 4 v n xs) (hn : k + n * 4 ≤ 9000000) :
    Calls Tryd.prog 54 #[v, .int .i64 k] w (MarkedN w B v k n) := by
  have hxl : xs.length = n * 4 := by have := hown.1; omega
  by_cases h0 : n = 0
  · subst h0
    obtain ⟨a, c, rfl⟩ := own_form hown
    have hnil : xs = [] := List.eq_nil_of_length_eq_zero hxl
    subst hnil
    go_enter Tryd.func54, Tryd.ntmps54
    go_wp2
    refine wp_loop_rounds 1 ?_
    rw [rounds_succ]
    go_wp2
    go_ret
    exact ⟨ret_int (by omega), hown, World.grownBy.refl _ _⟩
  · obtain ⟨g, c, rfl⟩ : ∃ g c, v = .slice (some ⟨g, 0, none⟩) n c := by
      rcases hown.2 with ⟨_, h⟩ | ⟨g, cap, cur, rfl, _⟩
      · exact absurd h h0
      · exact ⟨g, cap, rfl⟩
    clear h0
    go_enter Tryd.func54, Tryd.ntmps54
    go_wp2
    go_loopw [1, 5] (fun a i wr => ∃ j : Nat, j ≤ n ∧ a = .int .i64 ((k + j * 4 : Nat) : Int) ∧ i = .int .i64 j ∧ wr.ownsRow B 72 4 (.slice (some ⟨g, 0, none⟩) n c) n ((nums k (j * 4)).map (Value.int .i64) ++ xs.drop (j * 4)) ∧ w.grownBy wr (some g)) (fun _ i _ => n - (intOf i).toNat)
    case atStart => exact ⟨0, Nat.zero_le _, by simp, rfl, by simpa [nums] using hown, World.grownBy.refl _ _⟩
    case round =>
      clear hown
      obtain ⟨j, hj, rfl, rfl, hown, hgr⟩ := hrel
      by_cases hlt : j < n
      · have hlt2 : (j : Int) < (n : Int) := by omega
        obtain ⟨u0, f0⟩ := own_cell4 hown (j := j * 4) (by omega)
        obtain ⟨u1, f1⟩ := own_cell4 hown (j := j * 4 + 1) (by omega)
        obtain ⟨u2, f2⟩ := own_cell4 hown (j := j * 4 + 2) (by omega)
        obtain ⟨u3, f3⟩ := own_cell4 hown (j := j * 4 + 3) (by omega)
        have z0 := hown.frozenAt (j * 4)
        have z1 := hown.frozenAt (j * 4 + 1)
        have z2 := hown.frozenAt (j * 4 + 2)
        have z3 := hown.frozenAt (j * 4 + 3)
        have HS := Lib.hid (And.intro (nums_set k (j * 4) xs (by omega)) (And.intro (nums_set k (j * 4 + 1) xs (by omega)) (And.intro (nums_set k (j * 4 + 2) xs (by omega)) (nums_set k (j * 4 + 3) xs (by omega)))))
        have HO := Lib.hid hown
        have HG := Lib.hid hgr
        clear hown hgr
        go_wp2
        go_roundw
        case rel =>
          refine ⟨j + 1, by omega, by congr 1; omega, by go_num, ?_, grown_set (grown_set (grown_set (grown_set HG.out)))⟩
          obtain ⟨s0, s1, s2, s3⟩ := HS.out
          have h4 := ((((HO.out.stored (j * 4) (.int .i64 ((k + j * 4 : Nat) : Int))).1.stored (j * 4 + 1) (.int .i64 ((k + (j * 4 + 1) : Nat) : Int))).1.stored (j * 4 + 2) (.int .i64 ((k + (j * 4 + 2) : Nat) : Int))).1.stored (j * 4 + 3) (.int .i64 ((k + (j * 4 + 3) : Nat) : Int))).1
          rw [s0, s1, s2, s3, show ((k + j * 4 : Nat) : Int) = (k : Int) + (j : Int) * 4 by omega, show ((k + (j * 4 + 1) : Nat) : Int) = (k : Int) + (j : Int) * 4 + 1 by omega, show ((k + (j * 4 + 2) : Nat) : Int) = (k : Int) + (j : Int) * 4 + 1 + 1 by omega, show ((k + (j * 4 + 3) : Nat) : Int) = (k : Int) + (j : Int) * 4 + 1 + 1 + 1 by omega, show j * 4 + 3 + 1 = (j + 1) * 4 by omega] at h4
          exact h4
        case measure => simp [intOf]; omega
      · obtain rfl : j = n := by omega
        go_wp2
        go_ret
        exact ⟨rfl, by rw [List.drop_of_length_le (by omega), List.append_nil] at hown; exact hown, hgr⟩

theorem markNetN (N : Int) (v : Value) (B k n : Nat) (xs : List Value) (w : World) (hown : w.ownsRow B 72 4 v n xs) (hn : k + n * 4 ≤ 9000000) :
    Calls Tryd.prog 22 #[.agg #[.int .i64 N, v], .int .i64 k] w (MarkedN w B v k n) := by
  have hown1 := Lib.hid (hown.alloc (.cells #[.int .i64 N, v] 32))
  obtain ⟨a, c, rfl⟩ := own_form hown
  clear hown
  go_enter Tryd.func22, Tryd.ntmps22
  go_wp2_with fail
  refine (markArcsN _ B k n xs _ hown1.out hn).mono ?_
  rintro e w3 ⟨rfl, h1, hg⟩
  have hg2 := (World.grownBy_alloc w (.cells #[.int .i64 N, .slice a n c] 32) (Value.slice a n c).ownBlock).trans hg
  clear hg
  go_wp2_with fail
  go_ret
  exact ⟨rfl, h1, hg2⟩

/-- The marks lie there. -/
def HeldA (w : World) (v : Value) (k n : Nat) : Prop := ∃ a c, v = .slice a n c ∧ (n = 0 ∨ ∃ g, a = some ⟨g, 0, none⟩ ∧ g < w.heap.size ∧ ∀ j, j < n * 4 → w.cell? ⟨g, j, none⟩ = some (.int .i64 ((k + j : Nat) : Int)))
theorem HeldA.on {w w1 : World} {v : Value} {k n : Nat} (h : HeldA w v k n) (hb : Below w.heap.size w w1) : HeldA w1 v k n := by
  obtain ⟨a, c, rfl, h⟩ := h
  refine ⟨a, c, rfl, ?_⟩
  rcases h with h | ⟨g, rfl, hg, hc⟩
  · exact .inl h
  · exact .inr ⟨g, rfl, Nat.lt_of_lt_of_le hg hb.size, fun j hj => (hb.cell (p := ⟨g, j, none⟩) hg).trans (hc j hj)⟩
theorem heldA_of {w : World} {B : Nat} {e : TypeId} {v : Value} {k n : Nat} (h : w.ownsRow B e 4 v n ((nums k (n * 4)).map (Value.int .i64))) : HeldA w v k n := by
  by_cases h0 : n = 0
  · obtain ⟨a, c, rfl⟩ := own_form h
    exact ⟨a, c, rfl, .inl h0⟩
  · obtain ⟨g, c, rfl⟩ : ∃ g c, v = .slice (some ⟨g, 0, none⟩) n c := by
      rcases h.2 with ⟨_, h⟩ | ⟨g, cap, cur, rfl, _⟩
      · exact absurd h h0
      · exact ⟨g, cap, rfl⟩
    refine ⟨_, c, rfl, .inr ⟨g, rfl, (h.lt g rfl).2, fun j hj => ?_⟩⟩
    have := h.cells (g := g) rfl j (.int .i64 ((k + j : Nat) : Int)) (by rw [List.getElem?_map, nums_at hj]; rfl)
    have hadd : (⟨g, 0, none⟩ : Addr).add j = ⟨g, j, none⟩ := by unfold Addr.add; split <;> simp_all
    rwa [hadd] at this

set_option maxHeartbeats 1000000 in
theorem heldArcs (v : Value) (k n : Nat) (w : World) (h : HeldA w v k n) (hn : k + n * 4 ≤ 9000000) :
    Calls Tryd.prog 55 #[v, .int .i64 k] w (Made w (.int .i64 ((k + n * 4 : Nat) : Int))) := by
  obtain ⟨a, c, rfl, h⟩ := h
  by_cases h0 : n = 0
  · subst h0
    clear h
    go_enter Tryd.func55, Tryd.ntmps55
    go_wp2
    refine wp_loop_rounds 1 ?_
    rw [rounds_succ]
    go_wp2
    go_ret
    exact ⟨ret_int (by omega), Below.refl _ _⟩
  · rcases h with h | ⟨g, rfl, hg, hc⟩
    · exact absurd h h0
    have HC := Lib.hid hc
    clear hc h0
    go_enter Tryd.func55, Tryd.ntmps55
    go_wp2
    go_loop [1, 5] (fun a i => ∃ j : Nat, j ≤ n ∧ a = .int .i64 ((k + j * 4 : Nat) : Int) ∧ i = .int .i64 j) (fun _ i => n - (intOf i).toNat)
    case atStart => exact ⟨0, Nat.zero_le _, by simp, rfl⟩
    case round =>
      obtain ⟨j, hj, rfl, rfl⟩ := hrel
      by_cases hlt : j < n
      · have hlt2 : (j : Int) < (n : Int) := by omega
        have d0 : w.cell? ⟨g, j * 4, none⟩ = some (.int .i64 ((k : Int) + (j : Int) * 4)) := (HC.out (j * 4) (by omega)).trans (by congr 2)
        have d1 : w.cell? ⟨g, j * 4 + 1, none⟩ = some (.int .i64 ((k : Int) + (j : Int) * 4 + 1)) := (HC.out (j * 4 + 1) (by omega)).trans (by congr 2)
        have d2 : w.cell? ⟨g, j * 4 + 2, none⟩ = some (.int .i64 ((k : Int) + (j : Int) * 4 + 1 + 1)) := (HC.out (j * 4 + 2) (by omega)).trans (by congr 2)
        have d3 : w.cell? ⟨g, j * 4 + 3, none⟩ = some (.int .i64 ((k : Int) + (j : Int) * 4 + 1 + 1 + 1)) := (HC.out (j * 4 + 3) (by omega)).trans (by congr 2)
        go_wp2
        go_round
        case rel => exact ⟨j + 1, by omega, by congr 1; omega, by go_num⟩
        case measure => simp [intOf]; omega
      · obtain rfl : j = n := by omega
        go_wp2
        go_ret
        exact ⟨rfl, Below.refl _ _⟩

theorem heldNet (N : Int) (v : Value) (k n : Nat) (w : World) (h : HeldA w v k n) (hn : k + n * 4 ≤ 9000000) :
    Calls Tryd.prog 23 #[.agg #[.int .i64 N, v], .int .i64 k] w (Made w (.int .i64 ((k + n * 4 : Nat) : Int))) := by
  have HH := Lib.hid (h.on ((Below.refl w.heap.size w).alloc (Nat.le_refl _) (.cells #[.int .i64 N, v] 32)))
  have hB := (Below.refl w.heap.size w).alloc (Nat.le_refl _) (.cells #[.int .i64 N, v] 32)
  have h0 : ¬ (((k + n * 4 : Nat) : Int) < 0) := by omega
  obtain ⟨a, c, rfl, _⟩ := h
  go_enter Tryd.func23, Tryd.ntmps23
  go_wp2_with fail
  refine (heldArcs _ k n _ HH.out hn).mono ?_
  rintro e w3 ⟨rfl, hb⟩
  have HE := Lib.hid (hB.trans (hb.mono hB.size))
  clear hb HH hB
  go_wp2_with fail
  go_ret
  exact ⟨rfl, HE.out⟩

end Go.Proofs.YtlkhecdlmbhiaaaDoor

namespace Go.Proofs.YtlkhecdlmbhiaaaDoor
set_option maxRecDepth 4096
open Go.ChangeShapes Go.WideShapes Go.ChangeAt Go.RowKit

/-- A row that a call made: among the blocks from lo on, below hi. -/
structure RowD where
  lo : Nat
  hi : Nat
  t : TypeId
  sz : Nat
  v : Value
  n : Nat
  xs : List Value
structure RowD.At (r : RowD) (w : World) : Prop where
  own : w.ownsRow r.lo r.t r.sz r.v r.n r.xs
  lt : ∀ k, r.v.ownBlock = some k → k < r.hi
  le : r.hi ≤ w.heap.size

section
variable {r q : RowD} {w w' : World}
theorem RowD.At.on (h : r.At w) (hb : Below w.heap.size w w') : r.At w' := by
  refine ⟨?_, h.lt, Nat.le_trans h.le hb.size⟩
  refine h.own.kept (row := none) ⟨hb.os, hb.tape, hb.output, hb.size, fun i hi _ => hb.block i hi⟩ ?_
  cases hv : r.v.ownBlock with
  | none => exact .inl rfl
  | some j => exact .inr (by simp)
theorem RowD.At.drewN (h : r.At w) (m : Nat) : r.At (w.drewN m) := ⟨h.own, h.lt, h.le⟩
theorem RowD.At.grown (h : q.At w) (hr : r.At w) (ha : q.hi ≤ r.lo ∨ r.hi ≤ q.lo) (g : w.grownBy w' r.v.ownBlock) : q.At w' := by
  refine ⟨h.own.kept g ?_, h.lt, Nat.le_trans h.le g.size⟩
  cases hv : q.v.ownBlock with
  | none => exact .inl rfl
  | some j =>
    refine .inr (fun e => ?_)
    have h1 := h.lt j hv
    have h2 := (h.own.lt j hv).1
    have h3 := hr.lt j e.symm
    have h4 := (hr.own.lt j e.symm).1
    omega
/-- What a call handed back. -/
theorem row_new {t : TypeId} {sz : Nat} {v : Value} {n : Nat} {xs : List Value} (h : w'.ownsRow w.heap.size t sz v n xs) : RowD.At ⟨w.heap.size, w'.heap.size, t, sz, v, n, xs⟩ w' := ⟨h, fun k hk => (h.lt k hk).2, Nat.le_refl _⟩
end

/-- The law's state: its box o, the blocks K that stay, the rows L. -/
structure LSt (w : World) (o : Obj) (K : List (Nat × Obj)) (L : List RowD) (w' : World) : Prop where
  below : Below (w.alloc o).heap.size (w.alloc o) w'
  keep : ∀ p ∈ K, w'.heap[p.1]? = some p.2
  rows : ∀ r ∈ L, r.At w'

section
variable {w w' w'' : World} {o : Obj} {K : List (Nat × Obj)} {L : List RowD} {r : RowD}
theorem LSt.start (w : World) (o : Obj) : LSt w o [] [] (w.alloc o) := ⟨Below.refl _ _, fun p hp => (by cases hp), fun r hr => (by cases hr)⟩
theorem LSt.base (h : LSt w o K L w') : Below w.heap.size w w' := ((Below.refl _ _).alloc (Nat.le_refl _) _).trans (h.below.mono (by simp))
theorem LSt.on (h : LSt w o K L w') (hb : Below w'.heap.size w' w'') : LSt w o K L w'' :=
  ⟨h.below.trans (hb.mono h.below.size), fun p hp => (hb.block p.1 (Array.getElem?_eq_some_iff.1 (h.keep p hp)).1).trans (h.keep p hp), fun r hr => (h.rows r hr).on hb⟩
theorem LSt.drewN (h : LSt w o K L w') (m : Nat) : LSt w o K L (w'.drewN m) := ⟨below_drewN h.below m, h.keep, fun r hr => (h.rows r hr).drewN m⟩
theorem LSt.drew (h : LSt w o K L w') : LSt w o K L w'.drew := h.drewN 1
theorem LSt.few (h : LSt w o K L w') {K' : List (Nat × Obj)} {L' : List RowD} (hK : ∀ p ∈ K', p ∈ K) (hL : ∀ r ∈ L', r ∈ L) : LSt w o K' L' w' := ⟨h.below, fun p hp => h.keep p (hK p hp), fun r hr => h.rows r (hL r hr)⟩
/-- Another row comes first. -/
theorem LSt.front (h : LSt w o K L w') (i : Nat) (r : RowD) (hr : L[i]? = some r) : LSt w o K (r :: L.eraseIdx i) w' := h.few (fun p hp => hp) fun q hq => by
  rcases List.mem_cons.1 hq with rfl | hq
  · exact List.mem_of_getElem? hr
  · exact List.mem_of_mem_eraseIdx hq
theorem LSt.put (h : LSt w o K L w') (hr : r.At w') : LSt w o K (r :: L) w' := ⟨h.below, h.keep, fun q hq => by
  rcases List.mem_cons.1 hq with rfl | hq
  · exact hr
  · exact h.rows q hq⟩
/-- A call that hands back a row. -/
theorem LSt.call (h : LSt w o K L w') {t : TypeId} {sz : Nat} {v : Value} {n : Nat} {xs : List Value} (hr : w''.ownsRow w'.heap.size t sz v n xs) (hb : Below w'.heap.size w' w'') : LSt w o K (⟨w'.heap.size, w''.heap.size, t, sz, v, n, xs⟩ :: L) w'' := (h.on hb).put (row_new hr)
/-- A new block of the law's own. -/
theorem LSt.box (h : LSt w o K L w') (b : Obj) : LSt w o ((w'.heap.size, b) :: K) L (w'.alloc b) := by
  have h1 := h.on ((Below.refl w'.heap.size w').alloc (Nat.le_refl _) b)
  refine ⟨h1.below, fun p hp => ?_, h1.rows⟩
  rcases List.mem_cons.1 hp with rfl | hp
  · exact heap_alloc_new w' b
  · exact h1.keep p hp
/-- The first row is written anew. -/
theorem LSt.mark (h : LSt w o K (r :: L) w') {xs : List Value} (hn : w''.ownsRow r.lo r.t r.sz r.v r.n xs) (g : w'.grownBy w'' r.v.ownBlock) (hL : ∀ q ∈ L, q.hi ≤ r.lo ∨ r.hi ≤ q.lo) (hK : ∀ p ∈ K, p.1 < r.lo ∨ r.hi ≤ p.1) (hlo : (w.alloc o).heap.size ≤ r.lo) :
    LSt w o K ({ r with xs := xs } :: L) w'' := by
  have hr := h.rows r (List.mem_cons_self ..)
  refine ⟨h.below.grown g h.below.size (fun j hj => Nat.le_trans hlo (hr.own.lt j hj).1), fun p hp => ?_, fun q hq => ?_⟩
  · have h1 := h.keep p hp
    refine (g.block p.1 (Array.getElem?_eq_some_iff.1 h1).1 (fun e => ?_)).trans h1
    have h2 := hr.lt p.1 e.symm
    have h3 := (hr.own.lt p.1 e.symm).1
    have := hK p hp
    omega
  · rcases List.mem_cons.1 hq with rfl | hq
    · exact ⟨hn, hr.lt, Nat.le_trans hr.le g.size⟩
    · exact (h.rows q (List.mem_cons_of_mem _ hq)).grown hr (hL q hq) g
end

end Go.Proofs.YtlkhecdlmbhiaaaDoor

