/-
  NARROWER THAN 'FOR EVERY INPUT', by the rows' own cells (each row's printed sentence says how): FnSteps: laid · FnExactStepsFrom: laid · FnExactStepsTo: laid · FnExactWayTo: laid.
  DERIVED. THE GIVEN ROWS OF THIS SEAT. 4 by the template 'for every input the law returns true; each argument reads behind the call as it read before'; 0 by the template 'total and deterministic' (their statements: YtgknnlbdkjhaoaaDoorTotals.lean).
  GIVEN WITH THE SEED: the statements are not yours to turn. If you find one false, say at which input.
  Laid BY PROGRAM, IN A SANDBOX (cutbox-rows.mjs): the forced cells as the released guide's own fill.sh prints them over the translation bcdf76699aca95ab… (all of the seat's roots in one cut). By AI agents, Wed Nov 11 2026. No macro, syntax, notation, axiom, sorry.
-/
import Derived.Test.YtgknnlbdkjhaoaaDoorChecked
import GoSem.Claim
import GoSem.ClaimJoined
import GoSem.ClaimMapViews
import Derived.JoinedTies
import Derived.KernelRfl
namespace Go.Proofs.YtgknnlbdkjhaoaaDoor
/- THE CELL 'sum', in the pinned program and in every row, IS THE sha256 OF THE DUMP (.gsa) THAT YtgknnlbdkjhaoaaDoorProg.lean LOADS. Nothing in Lean hashes anything: it is a label: what it is worth is what the hold of that sum in a sandbox is worth. -/
noncomputable def Tryd.pinned : Pinned := { name := "ytgknnlbdkjhaoaadoor", sum := "bcdf76699aca95ab7fb1dc8a13219b6d6c631d8f9def5d8aca9c8f506583fe44", checked := Tryd.checked }
namespace Rows
def none {H : Type} : Left H := { results := [], args := [] }

/- WHAT THE LISTED PACKAGE-LEVEL VARIABLES READ AS WHEN THE CALL BEGINS. Each datum BY PROGRAM (the guide's laid-datum.mjs) off the statement by which the dump's own 'gosem.cut.vars' lays the variable. In a bare row this is a premise. The card (YtgknnlbdkjhaoaaDoorCards.lean) ties it to the program's text. -/
def laid_loop_example_g00961_impl_sideSteps {H : Type} : DataW H := .agg [.agg [.lit (.int .i64 0), .lit (.int .i64 (-1))], .agg [.lit (.int .i64 (-1)), .lit (.int .i64 0)], .agg [.lit (.int .i64 1), .lit (.int .i64 0)], .agg [.lit (.int .i64 0), .lit (.int .i64 1)]]

/-- 'laws.FnSteps': WHATEVER THE INPUT: true; the input reads as it did. -/
def fnStepsSpec : ChangeSpec := { name := "fnSteps", vars := ["loop.example/g00961/impl.sideSteps"], fn := fun _ => fun
  | [d, g1] => { results := [.lit (.bool true)], args := [d], vars := [g1] }
  | _ => none }
def fnStepsRow : OpenClaim := { program := "ytgknnlbdkjhaoaadoor", sum := "bcdf76699aca95ab7fb1dc8a13219b6d6c631d8f9def5d8aca9c8f506583fe44", func := "loop.example/g00961/laws.FnSteps", spec := "fnSteps", unfollowed := true, recurses := true, named := ["loop.example/g00961/impl.sideSteps"], apart := false, laid := [("loop.example/g00961/impl.sideSteps", laid_loop_example_g00961_impl_sideSteps)] }
def FnStepsSaid : Prop := fnStepsRow.holds Tryd.pinned (OpenSpec.ofChange fnStepsSpec)

/-- ITS FALSE NEIGHBOUR: 'it returns false'. Refute it at one input. -/
def fnStepsWrong : ChangeSpec := { name := "fnSteps", vars := ["loop.example/g00961/impl.sideSteps"], fn := fun _ => fun
  | [d, g1] => { results := [.lit (.bool false)], args := [d], vars := [g1] }
  | _ => none }
def FnStepsWrongFalsely : Prop := fnStepsRow.holds Tryd.pinned (OpenSpec.ofChange fnStepsWrong)

/-- 'laws.FnExactStepsFrom': WHATEVER THE INPUT: true; the input reads as it did. -/
def fnExactStepsFromSpec : ChangeSpec := { name := "fnExactStepsFrom", vars := ["loop.example/g00961/impl.sideSteps"], fn := fun _ => fun
  | [d1, d2, g1] => { results := [.lit (.bool true)], args := [d1, d2], vars := [g1] }
  | _ => none }
def fnExactStepsFromRow : OpenClaim := { program := "ytgknnlbdkjhaoaadoor", sum := "bcdf76699aca95ab7fb1dc8a13219b6d6c631d8f9def5d8aca9c8f506583fe44", func := "loop.example/g00961/laws.FnExactStepsFrom", spec := "fnExactStepsFrom", unfollowed := true, recurses := true, named := ["loop.example/g00961/impl.sideSteps"], apart := false, laid := [("loop.example/g00961/impl.sideSteps", laid_loop_example_g00961_impl_sideSteps)] }
def FnExactStepsFromSaid : Prop := fnExactStepsFromRow.holds Tryd.pinned (OpenSpec.ofChange fnExactStepsFromSpec)

/-- ITS FALSE NEIGHBOUR: 'it returns false'. Refute it at one input. -/
def fnExactStepsFromWrong : ChangeSpec := { name := "fnExactStepsFrom", vars := ["loop.example/g00961/impl.sideSteps"], fn := fun _ => fun
  | [d1, d2, g1] => { results := [.lit (.bool false)], args := [d1, d2], vars := [g1] }
  | _ => none }
def FnExactStepsFromWrongFalsely : Prop := fnExactStepsFromRow.holds Tryd.pinned (OpenSpec.ofChange fnExactStepsFromWrong)

/-- 'laws.FnExactStepsTo': WHATEVER THE INPUT: true; the input reads as it did. -/
def fnExactStepsToSpec : ChangeSpec := { name := "fnExactStepsTo", vars := ["loop.example/g00961/impl.sideSteps"], fn := fun _ => fun
  | [d1, d2, d3, g1] => { results := [.lit (.bool true)], args := [d1, d2, d3], vars := [g1] }
  | _ => none }
def fnExactStepsToRow : OpenClaim := { program := "ytgknnlbdkjhaoaadoor", sum := "bcdf76699aca95ab7fb1dc8a13219b6d6c631d8f9def5d8aca9c8f506583fe44", func := "loop.example/g00961/laws.FnExactStepsTo", spec := "fnExactStepsTo", unfollowed := true, recurses := true, named := ["loop.example/g00961/impl.sideSteps"], apart := false, laid := [("loop.example/g00961/impl.sideSteps", laid_loop_example_g00961_impl_sideSteps)] }
def FnExactStepsToSaid : Prop := fnExactStepsToRow.holds Tryd.pinned (OpenSpec.ofChange fnExactStepsToSpec)

/-- ITS FALSE NEIGHBOUR: 'it returns false'. Refute it at one input. -/
def fnExactStepsToWrong : ChangeSpec := { name := "fnExactStepsTo", vars := ["loop.example/g00961/impl.sideSteps"], fn := fun _ => fun
  | [d1, d2, d3, g1] => { results := [.lit (.bool false)], args := [d1, d2, d3], vars := [g1] }
  | _ => none }
def FnExactStepsToWrongFalsely : Prop := fnExactStepsToRow.holds Tryd.pinned (OpenSpec.ofChange fnExactStepsToWrong)

/-- 'laws.FnExactWayTo': WHATEVER THE INPUT: true; the input reads as it did. -/
def fnExactWayToSpec : ChangeSpec := { name := "fnExactWayTo", vars := ["loop.example/g00961/impl.sideSteps"], fn := fun _ => fun
  | [d1, d2, d3, g1] => { results := [.lit (.bool true)], args := [d1, d2, d3], vars := [g1] }
  | _ => none }
def fnExactWayToRow : OpenClaim := { program := "ytgknnlbdkjhaoaadoor", sum := "bcdf76699aca95ab7fb1dc8a13219b6d6c631d8f9def5d8aca9c8f506583fe44", func := "loop.example/g00961/laws.FnExactWayTo", spec := "fnExactWayTo", unfollowed := true, recurses := true, named := ["loop.example/g00961/impl.sideSteps"], apart := false, laid := [("loop.example/g00961/impl.sideSteps", laid_loop_example_g00961_impl_sideSteps)] }
def FnExactWayToSaid : Prop := fnExactWayToRow.holds Tryd.pinned (OpenSpec.ofChange fnExactWayToSpec)

/-- ITS FALSE NEIGHBOUR: 'it returns false'. Refute it at one input. -/
def fnExactWayToWrong : ChangeSpec := { name := "fnExactWayTo", vars := ["loop.example/g00961/impl.sideSteps"], fn := fun _ => fun
  | [d1, d2, d3, g1] => { results := [.lit (.bool false)], args := [d1, d2, d3], vars := [g1] }
  | _ => none }
def FnExactWayToWrongFalsely : Prop := fnExactWayToRow.holds Tryd.pinned (OpenSpec.ofChange fnExactWayToWrong)

/- THE SECOND FORM. 'bulk': how many values and letters a reading holds, each counted each time it is reached (what is shared counts as often as it is met; a slice's spare places count too). A statement '..UptoSaid' is the law's where the arguments, and the package variables that the reading takes, are together of bulk at most 1048576: NARROWER than '..Said'. Prove '..Said' where nothing that the law and all that it calls make is longer than what came in: it says more and counts as full. Else prove '..UptoSaid'. A law counts once. -/
mutual
def uptoBulk {H : Type} : DataW H → Nat
  | .lit (.string bytes) => bytes.length + 1
  | .lit _ => 1
  | .nil => 1
  | .ptr d => uptoBulk d + 1
  | .slice elems spare => uptoBulkAll elems + uptoBulkAll spare + 1
  | .agg parts => uptoBulkAll parts + 1
  | .iface _ d => uptoBulk d + 1
  | .map entries => uptoBulkEntries entries + 1
  | .held _ => 1
def uptoBulkAll {H : Type} : List (DataW H) → Nat
  | [] => 0
  | d :: r => uptoBulk d + uptoBulkAll r
def uptoBulkEntries {H : Type} : List (Lit × DataW H) → Nat
  | [] => 0
  | x :: r => uptoBulkEntry x + uptoBulkEntries r
def uptoBulkEntry {H : Type} : Lit × DataW H → Nat
  | (.string bytes, d) => bytes.length + uptoBulk d + 1
  | (_, d) => uptoBulk d + 1
 end
def uptoSmall : (H : Type) → List (DataW H) → Bool := fun _ ds => decide (uptoBulkAll ds ≤ 1048576)
def OpenSpec.upto (s : _root_.Go.ChangeSpec) : _root_.Go.OpenSpec := { _root_.Go.OpenSpec.ofChange s with cond := some uptoSmall }

/-- 'laws.FnSteps', WHERE WHAT IT READS IS OF BULK AT MOST 1048576: true; the input reads as it did. -/
def fnStepsUptoRow : OpenClaim := { program := "ytgknnlbdkjhaoaadoor", sum := "bcdf76699aca95ab7fb1dc8a13219b6d6c631d8f9def5d8aca9c8f506583fe44", func := "loop.example/g00961/laws.FnSteps", spec := "fnSteps", unfollowed := true, recurses := true, named := ["loop.example/g00961/impl.sideSteps"], apart := false, laid := [("loop.example/g00961/impl.sideSteps", laid_loop_example_g00961_impl_sideSteps)], narrowed := true }
def FnStepsUptoSaid : Prop := fnStepsUptoRow.holds Tryd.pinned (OpenSpec.upto fnStepsSpec)

/-- 'laws.FnExactStepsFrom', WHERE WHAT IT READS IS OF BULK AT MOST 1048576: true; the input reads as it did. -/
def fnExactStepsFromUptoRow : OpenClaim := { program := "ytgknnlbdkjhaoaadoor", sum := "bcdf76699aca95ab7fb1dc8a13219b6d6c631d8f9def5d8aca9c8f506583fe44", func := "loop.example/g00961/laws.FnExactStepsFrom", spec := "fnExactStepsFrom", unfollowed := true, recurses := true, named := ["loop.example/g00961/impl.sideSteps"], apart := false, laid := [("loop.example/g00961/impl.sideSteps", laid_loop_example_g00961_impl_sideSteps)], narrowed := true }
def FnExactStepsFromUptoSaid : Prop := fnExactStepsFromUptoRow.holds Tryd.pinned (OpenSpec.upto fnExactStepsFromSpec)

/-- 'laws.FnExactStepsTo', WHERE WHAT IT READS IS OF BULK AT MOST 1048576: true; the input reads as it did. -/
def fnExactStepsToUptoRow : OpenClaim := { program := "ytgknnlbdkjhaoaadoor", sum := "bcdf76699aca95ab7fb1dc8a13219b6d6c631d8f9def5d8aca9c8f506583fe44", func := "loop.example/g00961/laws.FnExactStepsTo", spec := "fnExactStepsTo", unfollowed := true, recurses := true, named := ["loop.example/g00961/impl.sideSteps"], apart := false, laid := [("loop.example/g00961/impl.sideSteps", laid_loop_example_g00961_impl_sideSteps)], narrowed := true }
def FnExactStepsToUptoSaid : Prop := fnExactStepsToUptoRow.holds Tryd.pinned (OpenSpec.upto fnExactStepsToSpec)

/-- 'laws.FnExactWayTo', WHERE WHAT IT READS IS OF BULK AT MOST 1048576: true; the input reads as it did. -/
def fnExactWayToUptoRow : OpenClaim := { program := "ytgknnlbdkjhaoaadoor", sum := "bcdf76699aca95ab7fb1dc8a13219b6d6c631d8f9def5d8aca9c8f506583fe44", func := "loop.example/g00961/laws.FnExactWayTo", spec := "fnExactWayTo", unfollowed := true, recurses := true, named := ["loop.example/g00961/impl.sideSteps"], apart := false, laid := [("loop.example/g00961/impl.sideSteps", laid_loop_example_g00961_impl_sideSteps)], narrowed := true }
def FnExactWayToUptoSaid : Prop := fnExactWayToUptoRow.holds Tryd.pinned (OpenSpec.upto fnExactWayToSpec)

end Rows
end Go.Proofs.YtgknnlbdkjhaoaaDoor
