/-
  What MostFlow hands back. No statement is proved here.
-/
import Derived.Test.YtghhlojjjjnogaaCutV
import Derived.Test.YtghhlojjjjnogaaBoolRow
namespace Go.Proofs.Ytghhlojjjjnogaa
set_option maxRecDepth 4096
open Go.ChangeShapes Go.WideShapes Go.ChangeAt Go.RowKit

/-- A number and a list of Booleans came back, the list in memory of the call's own. -/
def MostBack (w : World) (z : Int) (o : Nat → Bool) (m : Nat) (e : Ending) (w' : World) : Prop :=
  ∃ v, e = .returned (.tuple #[.int .i64 z, v]) ∧ w'.ownsRow w.heap.size 4 1 v m (rowB o m) ∧ Below w.heap.size w w'

end Go.Proofs.Ytghhlojjjjnogaa
