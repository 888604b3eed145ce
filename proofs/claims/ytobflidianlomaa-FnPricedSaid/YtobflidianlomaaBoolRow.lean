/-
  A row of Booleans in memory. No statement is proved here.
-/
import Derived.Test.YtobflidianlomaaReachO
import Derived.Test.YtobflidianlomaaNetM
namespace Go.Proofs.Ytobflidianlomaa
set_option maxRecDepth 4096
open Go.ChangeShapes Go.WideShapes Go.ChangeAt Go.RowKit

theorem Try.infoBool : (Try.prog.info? 4).map (fun i => (i.zero, i.size, i.bytes)) = some (some (.bool false), 1, 1) := by kernel_rfl

theorem made_rowB {w1 : World} {B : Nat} {g n : Nat} (h : w1.ownsRow B 4 1 (.slice (some ⟨g, 0, none⟩) n n) n (madeCells (Value.bool false).cells (n * 1)).toList) :
    w1.ownsRow B 4 1 (.slice (some ⟨g, 0, none⟩) n n) n (rowB (fun _ => false) n) := by
  have e : (madeCells (Value.bool false).cells (n * 1)).toList = rowB (fun _ => false) n := by
    rw [Nat.mul_one]
    exact (toList_madeCells_one _ _).trans (rowB_none n)
  rwa [e] at h
theorem add_row {w : World} {B g n c : Nat} {o : Nat → Bool} (h : w.ownsRow B 4 1 (.slice (some ⟨g, 0, none⟩) n n) n (rowB o n)) :
    (w.setCell ⟨g, c, none⟩ (.bool true)).ownsRow B 4 1 (.slice (some ⟨g, 0, none⟩) n n) n (rowB (addO o c) n) ∧ w.grownBy (w.setCell ⟨g, c, none⟩ (.bool true)) (some g) := by
  have := h.stored c (.bool true)
  rwa [rowB_set (o' := addO o c) (fun j => rfl)] at this

def yesN : Value → Nat
  | .bool true => 1
  | _ => 0
theorem netOk_of {N : Int} {A : List ArcD} {F : List Int} (h : flowOkV N A F = true) : netOkV N A = true := (flowOk_out h).1
end Go.Proofs.Ytobflidianlomaa
