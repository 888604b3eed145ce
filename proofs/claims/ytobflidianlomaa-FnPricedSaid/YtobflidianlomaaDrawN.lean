/-
  What is drawn: a network. Plain facts; no law is proved here.
-/
import Derived.Test.YtobflidianlomaaNetDraw
import Derived.Laws.ResultCell
namespace Go.Proofs.Ytobflidianlomaa
set_option maxRecDepth 4096
open Go.ChangeShapes Go.WideShapes Go.ChangeAt Go.RowKit

theorem rightA_le {N : Nat} {B : Nat → Int} {M : Int} : ∀ (f i : Nat) (s : DS) (A : List ArcD), s.i ≤ N → (rightA N B M f i s A).2.i ≤ N
  | 0, _, _, _, h => h
  | f + 1, i, s, A, h => by
    unfold rightA
    split
    · exact rightA_le f (i + 1) _ _ (DS.at_le h 6)
    · exact next_le h
theorem rightP_le {N : Nat} {B : Nat → Int} {s : DS} (h : s.i ≤ N) : (rightP N B s).2.i ≤ N := rightA_le _ _ _ _ (next_le h)

/-- What is drawn from N bytes B: nodes, arcs. -/
def dpM (N : Nat) (B : Nat → Int) : Nat := (rightM N B (startD N B)).toNat
def dpA (N : Nat) (B : Nat → Int) : List ArcD := (rightP N B (startD N B)).1
theorem dpM_is (N : Nat) (B : Nat → Int) : rightM N B (startD N B) = (dpM N B : Int) := by
  have := rightM_in N B (startD N B)
  unfold dpM
  omega
theorem dp_ok (N : Nat) (B : Nat → Int) : netOkV (dpM N B) (dpA N B) = true ∧ (dpA N B).length ≤ 18 := by
  have := right_ok N B (startD N B)
  rwa [dpM_is] at this
theorem far_two {W : World} {S X j : Nat} {a b u : Value} (h : S ≠ X) (hu : W.cell? ⟨X, j, none⟩ = some u) : ((W.setCell ⟨S, 0, none⟩ a).setCell ⟨S, 1, none⟩ b).cell? ⟨X, j, none⟩ = some u := by
  rw [← hu]
  unfold World.cell?
  rw [heap_setCell_other _ _ _ _ (fun e => h e.symm), heap_setCell_other _ _ _ _ (fun e => h e.symm)]

theorem below_grownP {w w' : World} (h : Below w.heap.size w w') : w.grownBy w' none := ⟨h.os, h.tape, h.output, h.size, fun i hi _ => h.block i hi⟩
theorem ne_noneP (v : Value) : v.ownBlock = none ∨ v.ownBlock ≠ none := by cases h : v.ownBlock <;> simp
/-- What DrawNet hands back. -/
def DrawnN (N : Nat) (B : Nat → Int) (w : World) (e : Ending) (w' : World) : Prop :=
  ∃ va, e = .returned (.agg #[.int .i64 (dpM N B : Int), va]) ∧ Arcs w' va (dpA N B) ∧ Below w.heap.size w w'

end Go.Proofs.Ytobflidianlomaa
