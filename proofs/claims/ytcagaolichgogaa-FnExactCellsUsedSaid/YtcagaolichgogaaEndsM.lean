/-
  The last cells of ways; all their cells. Plain facts; no statement is proved here.
-/
import Derived.Test.YtcagaolichgogaaWayRow
namespace Go.Proofs.Ytcagaolichgogaa
set_option maxRecDepth 4096
open Go.ChangeShapes Go.WideShapes Go.ChangeAt Go.RowKit

def lastOf (L : List Int) : List Int := L.drop (L.length - 1)
def lastsL (Ws : List (List Int)) : List Int := Ws.flatMap lastOf
def flatL (Ws : List (List Int)) : List Int := Ws.flatMap id
theorem lastOf_nil {L : List Int} (h : L.length = 0) : lastOf L = [] := by
  obtain rfl := List.eq_nil_of_length_eq_zero h
  rfl
theorem lastOf_one {L : List Int} {x : Int} (h : L[L.length - 1]? = some x) : lastOf L = [x] := by
  obtain ⟨hi, rfl⟩ := List.getElem?_eq_some_iff.1 h
  unfold lastOf
  rw [List.drop_eq_getElem_cons hi, List.drop_of_length_le (by omega)]
theorem lasts_succ {Ws : List (List Int)} {k : Nat} {L : List Int} (h : Ws[k]? = some L) : lastsL (Ws.take (k + 1)) = lastsL (Ws.take k) ++ lastOf L := by
  obtain ⟨hi, rfl⟩ := List.getElem?_eq_some_iff.1 h
  unfold lastsL
  rw [List.take_succ_eq_append_getElem hi, List.flatMap_append]
  simp
theorem flat_succ {Ws : List (List Int)} {k : Nat} {L : List Int} (h : Ws[k]? = some L) : flatL (Ws.take (k + 1)) = flatL (Ws.take k) ++ L := by
  obtain ⟨hi, rfl⟩ := List.getElem?_eq_some_iff.1 h
  unfold flatL
  rw [List.take_succ_eq_append_getElem hi, List.flatMap_append]
  simp
theorem flat_lenW (Ws : List (List Int)) : (flatL Ws).length = totW Ws := by
  unfold flatL totW
  rw [List.length_flatMap]
  rfl
theorem lasts_len (Ws : List (List Int)) : (lastsL Ws).length ≤ totW Ws := by
  unfold lastsL totW
  induction Ws with
  | nil => exact Nat.le_refl _
  | cons L Ws ih =>
    have : (lastOf L).length ≤ L.length := by
      unfold lastOf
      rw [List.length_drop]
      omega
    simp only [List.flatMap_cons, List.length_append, List.map_cons, List.sum_cons]
    omega

end Go.Proofs.Ytcagaolichgogaa
