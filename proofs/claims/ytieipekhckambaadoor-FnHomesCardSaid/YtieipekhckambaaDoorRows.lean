/-
  NARROWER THAN 'FOR EVERY INPUT', by the rows' own cells (each row's printed sentence says how): FnHomes: laid · FnExactHomeOf: laid · FnExactHomes: laid · FnExactCountIn: laid · FnExactEnough: laid.
  DERIVED. THE GIVEN ROWS OF THIS SEAT. 5 by the template 'for every input the law returns true; each argument reads behind the call as it read before'; 0 by the template 'total and deterministic' (their statements: YtieipekhckambaaDoorTotals.lean).
  GIVEN WITH THE SEED: the statements are not yours to turn. If you find one false, say at which input.
  Laid BY PROGRAM, IN A SANDBOX (cutbox-rows.mjs): the forced cells as the released guide's own fill.sh prints them over the translation 3a2cfb843131a5c2… (all of the seat's roots in one cut). By AI agents, Wed Nov 11 2026. No macro, syntax, notation, axiom, sorry.
-/
import Derived.Test.YtieipekhckambaaDoorChecked
import GoSem.Claim
import GoSem.ClaimJoined
import GoSem.ClaimMapViews
import Derived.JoinedTies
import Derived.KernelRfl
namespace Go.Proofs.YtieipekhckambaaDoor
/- THE CELL 'sum', in the pinned program and in every row, IS THE sha256 OF THE DUMP (.gsa) THAT YtieipekhckambaaDoorProg.lean LOADS. Nothing in Lean hashes anything: it is a label: what it is worth is what the hold of that sum in a sandbox is worth. -/
noncomputable def Tryd.pinned : Pinned := { name := "ytieipekhckambaadoor", sum := "3a2cfb843131a5c2a054876f948a84b626d6cf51009c9166791893151b0c00c4", checked := Tryd.checked }
namespace Rows
def none {H : Type} : Left H := { results := [], args := [] }

/- WHAT THE LISTED PACKAGE-LEVEL VARIABLES READ AS WHEN THE CALL BEGINS. Each datum BY PROGRAM (the guide's laid-datum.mjs) off the statement by which the dump's own 'gosem.cut.vars' lays the variable. In a bare row this is a premise. The card (YtieipekhckambaaDoorCards.lean) ties it to the program's text. -/
def laid_loop_example_g00961_impl_sideSteps {H : Type} : DataW H := .agg [.agg [.lit (.int .i64 0), .lit (.int .i64 (-1))], .agg [.lit (.int .i64 (-1)), .lit (.int .i64 0)], .agg [.lit (.int .i64 1), .lit (.int .i64 0)], .agg [.lit (.int .i64 0), .lit (.int .i64 1)]]

/-- 'laws.FnHomes': WHATEVER THE INPUT: true; the input reads as it did. -/
def fnHomesSpec : ChangeSpec := { name := "fnHomes", vars := ["loop.example/g00961/impl.sideSteps"], fn := fun _ => fun
  | [d, g1] => { results := [.lit (.bool true)], args := [d], vars := [g1] }
  | _ => none }
def fnHomesRow : OpenClaim := { program := "ytieipekhckambaadoor", sum := "3a2cfb843131a5c2a054876f948a84b626d6cf51009c9166791893151b0c00c4", func := "loop.example/g00961/laws.FnHomes", spec := "fnHomes", unfollowed := true, recurses := true, named := ["loop.example/g00961/impl.sideSteps"], apart := false, laid := [("loop.example/g00961/impl.sideSteps", laid_loop_example_g00961_impl_sideSteps)] }
def FnHomesSaid : Prop := fnHomesRow.holds Tryd.pinned (OpenSpec.ofChange fnHomesSpec)

/-- ITS FALSE NEIGHBOUR: 'it returns false'. Refute it at one input. -/
def fnHomesWrong : ChangeSpec := { name := "fnHomes", vars := ["loop.example/g00961/impl.sideSteps"], fn := fun _ => fun
  | [d, g1] => { results := [.lit (.bool false)], args := [d], vars := [g1] }
  | _ => none }
def FnHomesWrongFalsely : Prop := fnHomesRow.holds Tryd.pinned (OpenSpec.ofChange fnHomesWrong)

/-- 'laws.FnExactHomeOf': WHATEVER THE INPUT: true; the input reads as it did. -/
def fnExactHomeOfSpec : ChangeSpec := { name := "fnExactHomeOf", vars := ["loop.example/g00961/impl.sideSteps"], fn := fun _ => fun
  | [d1, d2, g1] => { results := [.lit (.bool true)], args := [d1, d2], vars := [g1] }
  | _ => none }
def fnExactHomeOfRow : OpenClaim := { program := "ytieipekhckambaadoor", sum := "3a2cfb843131a5c2a054876f948a84b626d6cf51009c9166791893151b0c00c4", func := "loop.example/g00961/laws.FnExactHomeOf", spec := "fnExactHomeOf", unfollowed := true, recurses := true, named := ["loop.example/g00961/impl.sideSteps"], apart := false, laid := [("loop.example/g00961/impl.sideSteps", laid_loop_example_g00961_impl_sideSteps)] }
def FnExactHomeOfSaid : Prop := fnExactHomeOfRow.holds Tryd.pinned (OpenSpec.ofChange fnExactHomeOfSpec)

/-- ITS FALSE NEIGHBOUR: 'it returns false'. Refute it at one input. -/
def fnExactHomeOfWrong : ChangeSpec := { name := "fnExactHomeOf", vars := ["loop.example/g00961/impl.sideSteps"], fn := fun _ => fun
  | [d1, d2, g1] => { results := [.lit (.bool false)], args := [d1, d2], vars := [g1] }
  | _ => none }
def FnExactHomeOfWrongFalsely : Prop := fnExactHomeOfRow.holds Tryd.pinned (OpenSpec.ofChange fnExactHomeOfWrong)

/-- 'laws.FnExactHomes': WHATEVER THE INPUT: true; the input reads as it did. -/
def fnExactHomesSpec : ChangeSpec := { name := "fnExactHomes", vars := ["loop.example/g00961/impl.sideSteps"], fn := fun _ => fun
  | [d, g1] => { results := [.lit (.bool true)], args := [d], vars := [g1] }
  | _ => none }
def fnExactHomesRow : OpenClaim := { program := "ytieipekhckambaadoor", sum := "3a2cfb843131a5c2a054876f948a84b626d6cf51009c9166791893151b0c00c4", func := "loop.example/g00961/laws.FnExactHomes", spec := "fnExactHomes", unfollowed := true, recurses := true, named := ["loop.example/g00961/impl.sideSteps"], apart := false, laid := [("loop.example/g00961/impl.sideSteps", laid_loop_example_g00961_impl_sideSteps)] }
def FnExactHomesSaid : Prop := fnExactHomesRow.holds Tryd.pinned (OpenSpec.ofChange fnExactHomesSpec)

/-- ITS FALSE NEIGHBOUR: 'it returns false'. Refute it at one input. -/
def fnExactHomesWrong : ChangeSpec := { name := "fnExactHomes", vars := ["loop.example/g00961/impl.sideSteps"], fn := fun _ => fun
  | [d, g1] => { results := [.lit (.bool false)], args := [d], vars := [g1] }
  | _ => none }
def FnExactHomesWrongFalsely : Prop := fnExactHomesRow.holds Tryd.pinned (OpenSpec.ofChange fnExactHomesWrong)

/-- 'laws.FnExactCountIn': WHATEVER THE INPUT: true; the input reads as it did. -/
def fnExactCountInSpec : ChangeSpec := { name := "fnExactCountIn", vars := ["loop.example/g00961/impl.sideSteps"], fn := fun _ => fun
  | [d1, d2, d3, g1] => { results := [.lit (.bool true)], args := [d1, d2, d3], vars := [g1] }
  | _ => none }
def fnExactCountInRow : OpenClaim := { program := "ytieipekhckambaadoor", sum := "3a2cfb843131a5c2a054876f948a84b626d6cf51009c9166791893151b0c00c4", func := "loop.example/g00961/laws.FnExactCountIn", spec := "fnExactCountIn", unfollowed := true, recurses := true, named := ["loop.example/g00961/impl.sideSteps"], apart := false, laid := [("loop.example/g00961/impl.sideSteps", laid_loop_example_g00961_impl_sideSteps)] }
def FnExactCountInSaid : Prop := fnExactCountInRow.holds Tryd.pinned (OpenSpec.ofChange fnExactCountInSpec)

/-- ITS FALSE NEIGHBOUR: 'it returns false'. Refute it at one input. -/
def fnExactCountInWrong : ChangeSpec := { name := "fnExactCountIn", vars := ["loop.example/g00961/impl.sideSteps"], fn := fun _ => fun
  | [d1, d2, d3, g1] => { results := [.lit (.bool false)], args := [d1, d2, d3], vars := [g1] }
  | _ => none }
def FnExactCountInWrongFalsely : Prop := fnExactCountInRow.holds Tryd.pinned (OpenSpec.ofChange fnExactCountInWrong)

/-- 'laws.FnExactEnough': WHATEVER THE INPUT: true; the input reads as it did. -/
def fnExactEnoughSpec : ChangeSpec := { name := "fnExactEnough", vars := ["loop.example/g00961/impl.sideSteps"], fn := fun _ => fun
  | [d1, d2, d3, g1] => { results := [.lit (.bool true)], args := [d1, d2, d3], vars := [g1] }
  | _ => none }
def fnExactEnoughRow : OpenClaim := { program := "ytieipekhckambaadoor", sum := "3a2cfb843131a5c2a054876f948a84b626d6cf51009c9166791893151b0c00c4", func := "loop.example/g00961/laws.FnExactEnough", spec := "fnExactEnough", unfollowed := true, recurses := true, named := ["loop.example/g00961/impl.sideSteps"], apart := false, laid := [("loop.example/g00961/impl.sideSteps", laid_loop_example_g00961_impl_sideSteps)] }
def FnExactEnoughSaid : Prop := fnExactEnoughRow.holds Tryd.pinned (OpenSpec.ofChange fnExactEnoughSpec)

/-- ITS FALSE NEIGHBOUR: 'it returns false'. Refute it at one input. -/
def fnExactEnoughWrong : ChangeSpec := { name := "fnExactEnough", vars := ["loop.example/g00961/impl.sideSteps"], fn := fun _ => fun
  | [d1, d2, d3, g1] => { results := [.lit (.bool false)], args := [d1, d2, d3], vars := [g1] }
  | _ => none }
def FnExactEnoughWrongFalsely : Prop := fnExactEnoughRow.holds Tryd.pinned (OpenSpec.ofChange fnExactEnoughWrong)

/- THE SECOND FORM. 'bulk': how many values and letters a reading holds, each counted each time it is reached (what is shared counts as often as it is met; a slice's spare places count too). A statement '..UptoSaid' is the law's where the arguments, and the package variables that the reading takes, are together of bulk at most 1048576: NARROWER than '..Said'. Prove '..Said' where nothing that the law and all that it calls make is longer than what came in: it says more and counts as full. Else prove '..UptoSaid'. A law counts once. -/
mutual
def uptoBulk {H : Type} : DataW H → Nat
  | .lit (.string bytes) => bytes.length + 1
  | .lit _ => 1
  | .nil => 1
  | .ptr d => uptoBulk d + 1
  | .slice elems spare => uptoBulkAll elems + uptoBulkAll spare + 1
  | .agg parts => uptoBulkAll parts + 1
  | .iface _ d => uptoBulk d + 1
  | .map entries => uptoBulkEntries entries + 1
  | .held _ => 1
def uptoBulkAll {H : Type} : List (DataW H) → Nat
  | [] => 0
  | d :: r => uptoBulk d + uptoBulkAll r
def uptoBulkEntries {H : Type} : List (Lit × DataW H) → Nat
  | [] => 0
  | x :: r => uptoBulkEntry x + uptoBulkEntries r
def uptoBulkEntry {H : Type} : Lit × DataW H → Nat
  | (.string bytes, d) => bytes.length + uptoBulk d + 1
  | (_, d) => uptoBulk d + 1
 end
def uptoSmall : (H : Type) → List (DataW H) → Bool := fun _ ds => decide (uptoBulkAll ds ≤ 1048576)
def OpenSpec.upto (s : _root_.Go.ChangeSpec) : _root_.Go.OpenSpec := { _root_.Go.OpenSpec.ofChange s with cond := some uptoSmall }

/-- 'laws.FnHomes', WHERE WHAT IT READS IS OF BULK AT MOST 1048576: true; the input reads as it did. -/
def fnHomesUptoRow : OpenClaim := { program := "ytieipekhckambaadoor", sum := "3a2cfb843131a5c2a054876f948a84b626d6cf51009c9166791893151b0c00c4", func := "loop.example/g00961/laws.FnHomes", spec := "fnHomes", unfollowed := true, recurses := true, named := ["loop.example/g00961/impl.sideSteps"], apart := false, laid := [("loop.example/g00961/impl.sideSteps", laid_loop_example_g00961_impl_sideSteps)], narrowed := true }
def FnHomesUptoSaid : Prop := fnHomesUptoRow.holds Tryd.pinned (OpenSpec.upto fnHomesSpec)

/-- 'laws.FnExactHomeOf', WHERE WHAT IT READS IS OF BULK AT MOST 1048576: true; the input reads as it did. -/
def fnExactHomeOfUptoRow : OpenClaim := { program := "ytieipekhckambaadoor", sum := "3a2cfb843131a5c2a054876f948a84b626d6cf51009c9166791893151b0c00c4", func := "loop.example/g00961/laws.FnExactHomeOf", spec := "fnExactHomeOf", unfollowed := true, recurses := true, named := ["loop.example/g00961/impl.sideSteps"], apart := false, laid := [("loop.example/g00961/impl.sideSteps", laid_loop_example_g00961_impl_sideSteps)], narrowed := true }
def FnExactHomeOfUptoSaid : Prop := fnExactHomeOfUptoRow.holds Tryd.pinned (OpenSpec.upto fnExactHomeOfSpec)

/-- 'laws.FnExactHomes', WHERE WHAT IT READS IS OF BULK AT MOST 1048576: true; the input reads as it did. -/
def fnExactHomesUptoRow : OpenClaim := { program := "ytieipekhckambaadoor", sum := "3a2cfb843131a5c2a054876f948a84b626d6cf51009c9166791893151b0c00c4", func := "loop.example/g00961/laws.FnExactHomes", spec := "fnExactHomes", unfollowed := true, recurses := true, named := ["loop.example/g00961/impl.sideSteps"], apart := false, laid := [("loop.example/g00961/impl.sideSteps", laid_loop_example_g00961_impl_sideSteps)], narrowed := true }
def FnExactHomesUptoSaid : Prop := fnExactHomesUptoRow.holds Tryd.pinned (OpenSpec.upto fnExactHomesSpec)

/-- 'laws.FnExactCountIn', WHERE WHAT IT READS IS OF BULK AT MOST 1048576: true; the input reads as it did. -/
def fnExactCountInUptoRow : OpenClaim := { program := "ytieipekhckambaadoor", sum := "3a2cfb843131a5c2a054876f948a84b626d6cf51009c9166791893151b0c00c4", func := "loop.example/g00961/laws.FnExactCountIn", spec := "fnExactCountIn", unfollowed := true, recurses := true, named := ["loop.example/g00961/impl.sideSteps"], apart := false, laid := [("loop.example/g00961/impl.sideSteps", laid_loop_example_g00961_impl_sideSteps)], narrowed := true }
def FnExactCountInUptoSaid : Prop := fnExactCountInUptoRow.holds Tryd.pinned (OpenSpec.upto fnExactCountInSpec)

/-- 'laws.FnExactEnough', WHERE WHAT IT READS IS OF BULK AT MOST 1048576: true; the input reads as it did. -/
def fnExactEnoughUptoRow : OpenClaim := { program := "ytieipekhckambaadoor", sum := "3a2cfb843131a5c2a054876f948a84b626d6cf51009c9166791893151b0c00c4", func := "loop.example/g00961/laws.FnExactEnough", spec := "fnExactEnough", unfollowed := true, recurses := true, named := ["loop.example/g00961/impl.sideSteps"], apart := false, laid := [("loop.example/g00961/impl.sideSteps", laid_loop_example_g00961_impl_sideSteps)], narrowed := true }
def FnExactEnoughUptoSaid : Prop := fnExactEnoughUptoRow.holds Tryd.pinned (OpenSpec.upto fnExactEnoughSpec)

end Rows
end Go.Proofs.YtieipekhckambaaDoor
