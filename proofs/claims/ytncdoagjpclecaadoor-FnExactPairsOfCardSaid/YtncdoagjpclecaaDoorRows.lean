/-
  NARROWER THAN 'FOR EVERY INPUT', by the rows' own cells (each row's printed sentence says how): FnExactAround: laid · FnExactBeside: laid · FnExactPairsOf: laid.
  DERIVED. THE GIVEN ROWS OF THIS SEAT. 3 by the template 'for every input the law returns true; each argument reads behind the call as it read before'; 0 by the template 'total and deterministic' (their statements: YtncdoagjpclecaaDoorTotals.lean).
  GIVEN WITH THE SEED: the statements are not yours to turn. If you find one false, say at which input.
  Laid BY PROGRAM, IN A SANDBOX (cutbox-rows.mjs): the forced cells as the released guide's own fill.sh prints them over the translation 8a82d65802391e31… (all of the seat's roots in one cut). By AI agents, Wed Nov 11 2026. No macro, syntax, notation, axiom, sorry.
-/
import Derived.Test.YtncdoagjpclecaaDoorChecked
import GoSem.Claim
import GoSem.ClaimJoined
import GoSem.ClaimMapViews
import Derived.JoinedTies
import Derived.KernelRfl
namespace Go.Proofs.YtncdoagjpclecaaDoor
/- THE CELL 'sum', in the pinned program and in every row, IS THE sha256 OF THE DUMP (.gsa) THAT YtncdoagjpclecaaDoorProg.lean LOADS. Nothing in Lean hashes anything: it is a label: what it is worth is what the hold of that sum in a sandbox is worth. -/
noncomputable def Tryd.pinned : Pinned := { name := "ytncdoagjpclecaadoor", sum := "8a82d65802391e315a95cad6d4b26f882ac3a420ec52f560b2c7bc2d70626bc4", checked := Tryd.checked }
namespace Rows
def none {H : Type} : Left H := { results := [], args := [] }

/- WHAT THE LISTED PACKAGE-LEVEL VARIABLES READ AS WHEN THE CALL BEGINS. Each datum BY PROGRAM (the guide's laid-datum.mjs) off the statement by which the dump's own 'gosem.cut.vars' lays the variable. In a bare row this is a premise. The card (YtncdoagjpclecaaDoorCards.lean) ties it to the program's text. -/
def laid_loop_example_g00961_impl_sideSteps {H : Type} : DataW H := .agg [.agg [.lit (.int .i64 0), .lit (.int .i64 (-1))], .agg [.lit (.int .i64 (-1)), .lit (.int .i64 0)], .agg [.lit (.int .i64 1), .lit (.int .i64 0)], .agg [.lit (.int .i64 0), .lit (.int .i64 1)]]

/-- 'laws.FnExactAround': WHATEVER THE INPUT: true; the input reads as it did. -/
def fnExactAroundSpec : ChangeSpec := { name := "fnExactAround", vars := ["loop.example/g00961/impl.sideSteps"], fn := fun _ => fun
  | [d1, d2, g1] => { results := [.lit (.bool true)], args := [d1, d2], vars := [g1] }
  | _ => none }
def fnExactAroundRow : OpenClaim := { program := "ytncdoagjpclecaadoor", sum := "8a82d65802391e315a95cad6d4b26f882ac3a420ec52f560b2c7bc2d70626bc4", func := "loop.example/g00961/laws.FnExactAround", spec := "fnExactAround", unfollowed := true, recurses := true, named := ["loop.example/g00961/impl.sideSteps"], apart := false, laid := [("loop.example/g00961/impl.sideSteps", laid_loop_example_g00961_impl_sideSteps)] }
def FnExactAroundSaid : Prop := fnExactAroundRow.holds Tryd.pinned (OpenSpec.ofChange fnExactAroundSpec)

/-- ITS FALSE NEIGHBOUR: 'it returns false'. Refute it at one input. -/
def fnExactAroundWrong : ChangeSpec := { name := "fnExactAround", vars := ["loop.example/g00961/impl.sideSteps"], fn := fun _ => fun
  | [d1, d2, g1] => { results := [.lit (.bool false)], args := [d1, d2], vars := [g1] }
  | _ => none }
def FnExactAroundWrongFalsely : Prop := fnExactAroundRow.holds Tryd.pinned (OpenSpec.ofChange fnExactAroundWrong)

/-- 'laws.FnExactBeside': WHATEVER THE INPUT: true; the input reads as it did. -/
def fnExactBesideSpec : ChangeSpec := { name := "fnExactBeside", vars := ["loop.example/g00961/impl.sideSteps"], fn := fun _ => fun
  | [d1, d2, d3, g1] => { results := [.lit (.bool true)], args := [d1, d2, d3], vars := [g1] }
  | _ => none }
def fnExactBesideRow : OpenClaim := { program := "ytncdoagjpclecaadoor", sum := "8a82d65802391e315a95cad6d4b26f882ac3a420ec52f560b2c7bc2d70626bc4", func := "loop.example/g00961/laws.FnExactBeside", spec := "fnExactBeside", unfollowed := true, recurses := true, named := ["loop.example/g00961/impl.sideSteps"], apart := false, laid := [("loop.example/g00961/impl.sideSteps", laid_loop_example_g00961_impl_sideSteps)] }
def FnExactBesideSaid : Prop := fnExactBesideRow.holds Tryd.pinned (OpenSpec.ofChange fnExactBesideSpec)

/-- ITS FALSE NEIGHBOUR: 'it returns false'. Refute it at one input. -/
def fnExactBesideWrong : ChangeSpec := { name := "fnExactBeside", vars := ["loop.example/g00961/impl.sideSteps"], fn := fun _ => fun
  | [d1, d2, d3, g1] => { results := [.lit (.bool false)], args := [d1, d2, d3], vars := [g1] }
  | _ => none }
def FnExactBesideWrongFalsely : Prop := fnExactBesideRow.holds Tryd.pinned (OpenSpec.ofChange fnExactBesideWrong)

/-- 'laws.FnExactPairsOf': WHATEVER THE INPUT: true; the input reads as it did. -/
def fnExactPairsOfSpec : ChangeSpec := { name := "fnExactPairsOf", vars := ["loop.example/g00961/impl.sideSteps"], fn := fun _ => fun
  | [d, g1] => { results := [.lit (.bool true)], args := [d], vars := [g1] }
  | _ => none }
def fnExactPairsOfRow : OpenClaim := { program := "ytncdoagjpclecaadoor", sum := "8a82d65802391e315a95cad6d4b26f882ac3a420ec52f560b2c7bc2d70626bc4", func := "loop.example/g00961/laws.FnExactPairsOf", spec := "fnExactPairsOf", unfollowed := true, recurses := true, named := ["loop.example/g00961/impl.sideSteps"], apart := false, laid := [("loop.example/g00961/impl.sideSteps", laid_loop_example_g00961_impl_sideSteps)] }
def FnExactPairsOfSaid : Prop := fnExactPairsOfRow.holds Tryd.pinned (OpenSpec.ofChange fnExactPairsOfSpec)

/-- ITS FALSE NEIGHBOUR: 'it returns false'. Refute it at one input. -/
def fnExactPairsOfWrong : ChangeSpec := { name := "fnExactPairsOf", vars := ["loop.example/g00961/impl.sideSteps"], fn := fun _ => fun
  | [d, g1] => { results := [.lit (.bool false)], args := [d], vars := [g1] }
  | _ => none }
def FnExactPairsOfWrongFalsely : Prop := fnExactPairsOfRow.holds Tryd.pinned (OpenSpec.ofChange fnExactPairsOfWrong)

/- THE SECOND FORM. 'bulk': how many values and letters a reading holds, each counted each time it is reached (what is shared counts as often as it is met; a slice's spare places count too). A statement '..UptoSaid' is the law's where the arguments, and the package variables that the reading takes, are together of bulk at most 1048576: NARROWER than '..Said'. Prove '..Said' where nothing that the law and all that it calls make is longer than what came in: it says more and counts as full. Else prove '..UptoSaid'. A law counts once. -/
mutual
def uptoBulk {H : Type} : DataW H → Nat
  | .lit (.string bytes) => bytes.length + 1
  | .lit _ => 1
  | .nil => 1
  | .ptr d => uptoBulk d + 1
  | .slice elems spare => uptoBulkAll elems + uptoBulkAll spare + 1
  | .agg parts => uptoBulkAll parts + 1
  | .iface _ d => uptoBulk d + 1
  | .map entries => uptoBulkEntries entries + 1
  | .held _ => 1
def uptoBulkAll {H : Type} : List (DataW H) → Nat
  | [] => 0
  | d :: r => uptoBulk d + uptoBulkAll r
def uptoBulkEntries {H : Type} : List (Lit × DataW H) → Nat
  | [] => 0
  | x :: r => uptoBulkEntry x + uptoBulkEntries r
def uptoBulkEntry {H : Type} : Lit × DataW H → Nat
  | (.string bytes, d) => bytes.length + uptoBulk d + 1
  | (_, d) => uptoBulk d + 1
 end
def uptoSmall : (H : Type) → List (DataW H) → Bool := fun _ ds => decide (uptoBulkAll ds ≤ 1048576)
def OpenSpec.upto (s : _root_.Go.ChangeSpec) : _root_.Go.OpenSpec := { _root_.Go.OpenSpec.ofChange s with cond := some uptoSmall }

/-- 'laws.FnExactAround', WHERE WHAT IT READS IS OF BULK AT MOST 1048576: true; the input reads as it did. -/
def fnExactAroundUptoRow : OpenClaim := { program := "ytncdoagjpclecaadoor", sum := "8a82d65802391e315a95cad6d4b26f882ac3a420ec52f560b2c7bc2d70626bc4", func := "loop.example/g00961/laws.FnExactAround", spec := "fnExactAround", unfollowed := true, recurses := true, named := ["loop.example/g00961/impl.sideSteps"], apart := false, laid := [("loop.example/g00961/impl.sideSteps", laid_loop_example_g00961_impl_sideSteps)], narrowed := true }
def FnExactAroundUptoSaid : Prop := fnExactAroundUptoRow.holds Tryd.pinned (OpenSpec.upto fnExactAroundSpec)

/-- 'laws.FnExactBeside', WHERE WHAT IT READS IS OF BULK AT MOST 1048576: true; the input reads as it did. -/
def fnExactBesideUptoRow : OpenClaim := { program := "ytncdoagjpclecaadoor", sum := "8a82d65802391e315a95cad6d4b26f882ac3a420ec52f560b2c7bc2d70626bc4", func := "loop.example/g00961/laws.FnExactBeside", spec := "fnExactBeside", unfollowed := true, recurses := true, named := ["loop.example/g00961/impl.sideSteps"], apart := false, laid := [("loop.example/g00961/impl.sideSteps", laid_loop_example_g00961_impl_sideSteps)], narrowed := true }
def FnExactBesideUptoSaid : Prop := fnExactBesideUptoRow.holds Tryd.pinned (OpenSpec.upto fnExactBesideSpec)

/-- 'laws.FnExactPairsOf', WHERE WHAT IT READS IS OF BULK AT MOST 1048576: true; the input reads as it did. -/
def fnExactPairsOfUptoRow : OpenClaim := { program := "ytncdoagjpclecaadoor", sum := "8a82d65802391e315a95cad6d4b26f882ac3a420ec52f560b2c7bc2d70626bc4", func := "loop.example/g00961/laws.FnExactPairsOf", spec := "fnExactPairsOf", unfollowed := true, recurses := true, named := ["loop.example/g00961/impl.sideSteps"], apart := false, laid := [("loop.example/g00961/impl.sideSteps", laid_loop_example_g00961_impl_sideSteps)], narrowed := true }
def FnExactPairsOfUptoSaid : Prop := fnExactPairsOfUptoRow.holds Tryd.pinned (OpenSpec.upto fnExactPairsOfSpec)

end Rows
end Go.Proofs.YtncdoagjpclecaaDoor
