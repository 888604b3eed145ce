/-
  How many moves ways have. Plain facts; no statement is proved here.
-/
import Derived.Test.YtcagaolichgogaaWayRow
namespace Go.Proofs.Ytcagaolichgogaa
set_option maxRecDepth 4096

/-- The moves of a way before its k-th cell. -/
def moveN (L : List Int) (k : Nat) : Nat := (List.range k).countP fun t => decide (0 < t) && decide (L.getD t 0 ≠ L.getD (t - 1) 0)
def movesW (Ws : List (List Int)) : Nat := (Ws.map fun L => moveN L L.length).sum
theorem moveN_le (L : List Int) (k : Nat) : moveN L k ≤ k := by
  have := List.countP_le_length (p := fun t => decide (0 < t) && decide (L.getD t 0 ≠ L.getD (t - 1) 0)) (l := List.range k)
  rw [List.length_range] at this
  exact this
theorem moveN_one (L : List Int) : moveN L 1 = 0 := rfl
theorem moveN_zero (L : List Int) : moveN L 0 = 0 := rfl
theorem moveN_succ {L : List Int} {k : Nat} {x y : Int} (h0 : 0 < k) (hx : L[k]? = some x) (hy : L[k - 1]? = some y) : moveN L (k + 1) = moveN L k + (if x ≠ y then 1 else 0) := by
  unfold moveN
  rw [List.range_succ, List.countP_append]
  congr 1
  simp only [List.countP_cons, List.countP_nil, List.getD_eq_getElem?_getD, hx, hy, Option.getD_some, h0, decide_true, Bool.true_and, decide_eq_true_eq, Nat.zero_add]
theorem movesW_succ {Ws : List (List Int)} {k : Nat} {L : List Int} (h : Ws[k]? = some L) : movesW (Ws.take (k + 1)) = movesW (Ws.take k) + moveN L L.length := by
  obtain ⟨hi, rfl⟩ := List.getElem?_eq_some_iff.1 h
  unfold movesW
  rw [List.take_succ_eq_append_getElem hi, List.map_append, List.sum_append]
  simp
theorem movesW_le (Ws : List (List Int)) : movesW Ws ≤ totW Ws := by
  unfold movesW totW
  induction Ws with
  | nil => exact Nat.le_refl _
  | cons L Ws ih =>
    have := moveN_le L L.length
    simp only [List.map_cons, List.sum_cons]
    omega

end Go.Proofs.Ytcagaolichgogaa
