/-
  NARROWER THAN 'FOR EVERY INPUT', by the rows' own cells (each row's printed sentence says how): FnUncrossed: laid · FnPlans: laid · FnWaysBack: laid.
  DERIVED. THE GIVEN ROWS OF THIS SEAT. 3 by the template 'for every input the law returns true; each argument reads behind the call as it read before'; 0 by the template 'total and deterministic' (their statements: YtkbfbifepaoojaaGreatDoorTotals.lean).
  GIVEN WITH THE SEED: the statements are not yours to turn. If you find one false, say at which input.
  Laid BY PROGRAM, IN A SANDBOX (cutbox-rows.mjs): the forced cells as the released guide's own fill.sh prints them over the translation 8ad6f7c254003792… (all of the seat's roots in one cut). By AI agents, Wed Nov 11 2026. No macro, syntax, notation, axiom, sorry.
-/
import Derived.Test.YtkbfbifepaoojaaGreatDoorChecked
import GoSem.Claim
import GoSem.ClaimJoined
import GoSem.ClaimMapViews
import Derived.JoinedTies
import Derived.KernelRfl
namespace Go.Proofs.YtkbfbifepaoojaaGreatDoor
/- THE CELL 'sum', in the pinned program and in every row, IS THE sha256 OF THE DUMP (.gsa) THAT YtkbfbifepaoojaaGreatDoorProg.lean LOADS. Nothing in Lean hashes anything: it is a label: what it is worth is what the hold of that sum in a sandbox is worth. -/
noncomputable def Tryz.pinned : Pinned := { name := "ytkbfbifepaoojaagreatdoor", sum := "8ad6f7c254003792b3bf94bfafd45804e8297096f8ea4f2eb0443a11a766c683", checked := Tryz.checked }
namespace Rows
def none {H : Type} : Left H := { results := [], args := [] }

/- WHAT THE LISTED PACKAGE-LEVEL VARIABLES READ AS WHEN THE CALL BEGINS. Each datum BY PROGRAM (the guide's laid-datum.mjs) off the statement by which the dump's own 'gosem.cut.vars' lays the variable. In a bare row this is a premise. The card (YtkbfbifepaoojaaGreatDoorCards.lean) ties it to the program's text. -/
def laid_errors_errorType {H : Type} : DataW H := .iface "internal/reflectlite.rtype" (.agg [.ptr (.lit (.string [101, 114, 114, 111, 114]))])
def laid_loop_example_g00961_impl_sideSteps {H : Type} : DataW H := .agg [.agg [.lit (.int .i64 0), .lit (.int .i64 (-1))], .agg [.lit (.int .i64 (-1)), .lit (.int .i64 0)], .agg [.lit (.int .i64 1), .lit (.int .i64 0)], .agg [.lit (.int .i64 0), .lit (.int .i64 1)]]

/-- 'laws.FnUncrossed': WHATEVER THE INPUT: true; the input reads as it did. -/
def fnUncrossedSpec : ChangeSpec := { name := "fnUncrossed", vars := ["loop.example/g00961/impl.sideSteps"], fn := fun _ => fun
  | [d, g1] => { results := [.lit (.bool true)], args := [d], vars := [g1] }
  | _ => none }
def fnUncrossedRow : OpenClaim := { program := "ytkbfbifepaoojaagreatdoor", sum := "8ad6f7c254003792b3bf94bfafd45804e8297096f8ea4f2eb0443a11a766c683", func := "loop.example/g00961/laws.FnUncrossed", spec := "fnUncrossed", inPlace := ["internal/reflectlite.ValueOf", "(internal/reflectlite.Value).Type", "(internal/reflectlite.Value).IsNil", "internal/reflectlite.TypeOf", "(internal/reflectlite.Value).Elem", "(internal/reflectlite.Value).Set"], unfollowed := true, recurses := true, named := ["loop.example/g00961/impl.sideSteps", "errors.errorType"], plainKeys := false, apart := false, laid := [("errors.errorType", laid_errors_errorType), ("loop.example/g00961/impl.sideSteps", laid_loop_example_g00961_impl_sideSteps)] }
def FnUncrossedSaid : Prop := fnUncrossedRow.holds Tryz.pinned (OpenSpec.ofChange fnUncrossedSpec)

/-- ITS FALSE NEIGHBOUR: 'it returns false'. Refute it at one input. -/
def fnUncrossedWrong : ChangeSpec := { name := "fnUncrossed", vars := ["loop.example/g00961/impl.sideSteps"], fn := fun _ => fun
  | [d, g1] => { results := [.lit (.bool false)], args := [d], vars := [g1] }
  | _ => none }
def FnUncrossedWrongFalsely : Prop := fnUncrossedRow.holds Tryz.pinned (OpenSpec.ofChange fnUncrossedWrong)

/-- 'laws.FnPlans': WHATEVER THE INPUT: true; the input reads as it did. -/
def fnPlansSpec : ChangeSpec := { name := "fnPlans", vars := ["loop.example/g00961/impl.sideSteps"], fn := fun _ => fun
  | [d, g1] => { results := [.lit (.bool true)], args := [d], vars := [g1] }
  | _ => none }
def fnPlansRow : OpenClaim := { program := "ytkbfbifepaoojaagreatdoor", sum := "8ad6f7c254003792b3bf94bfafd45804e8297096f8ea4f2eb0443a11a766c683", func := "loop.example/g00961/laws.FnPlans", spec := "fnPlans", inPlace := ["internal/reflectlite.ValueOf", "(internal/reflectlite.Value).Type", "(internal/reflectlite.Value).IsNil", "internal/reflectlite.TypeOf", "(internal/reflectlite.Value).Elem", "(internal/reflectlite.Value).Set"], unfollowed := true, recurses := true, named := ["loop.example/g00961/impl.sideSteps", "errors.errorType"], plainKeys := false, apart := false, laid := [("errors.errorType", laid_errors_errorType), ("loop.example/g00961/impl.sideSteps", laid_loop_example_g00961_impl_sideSteps)] }
def FnPlansSaid : Prop := fnPlansRow.holds Tryz.pinned (OpenSpec.ofChange fnPlansSpec)

/-- ITS FALSE NEIGHBOUR: 'it returns false'. Refute it at one input. -/
def fnPlansWrong : ChangeSpec := { name := "fnPlans", vars := ["loop.example/g00961/impl.sideSteps"], fn := fun _ => fun
  | [d, g1] => { results := [.lit (.bool false)], args := [d], vars := [g1] }
  | _ => none }
def FnPlansWrongFalsely : Prop := fnPlansRow.holds Tryz.pinned (OpenSpec.ofChange fnPlansWrong)

/-- 'laws.FnWaysBack': WHATEVER THE INPUT: true; the input reads as it did. -/
def fnWaysBackSpec : ChangeSpec := { name := "fnWaysBack", vars := ["loop.example/g00961/impl.sideSteps"], fn := fun _ => fun
  | [d, g1] => { results := [.lit (.bool true)], args := [d], vars := [g1] }
  | _ => none }
def fnWaysBackRow : OpenClaim := { program := "ytkbfbifepaoojaagreatdoor", sum := "8ad6f7c254003792b3bf94bfafd45804e8297096f8ea4f2eb0443a11a766c683", func := "loop.example/g00961/laws.FnWaysBack", spec := "fnWaysBack", unfollowed := true, recurses := true, named := ["loop.example/g00961/impl.sideSteps"], plainKeys := false, apart := false, laid := [("loop.example/g00961/impl.sideSteps", laid_loop_example_g00961_impl_sideSteps)] }
def FnWaysBackSaid : Prop := fnWaysBackRow.holds Tryz.pinned (OpenSpec.ofChange fnWaysBackSpec)

/-- ITS FALSE NEIGHBOUR: 'it returns false'. Refute it at one input. -/
def fnWaysBackWrong : ChangeSpec := { name := "fnWaysBack", vars := ["loop.example/g00961/impl.sideSteps"], fn := fun _ => fun
  | [d, g1] => { results := [.lit (.bool false)], args := [d], vars := [g1] }
  | _ => none }
def FnWaysBackWrongFalsely : Prop := fnWaysBackRow.holds Tryz.pinned (OpenSpec.ofChange fnWaysBackWrong)

/- THE SECOND FORM. 'bulk': how many values and letters a reading holds, each counted each time it is reached (what is shared counts as often as it is met; a slice's spare places count too). A statement '..UptoSaid' is the law's where the arguments, and the package variables that the reading takes, are together of bulk at most 1048576: NARROWER than '..Said'. Prove '..Said' where nothing that the law and all that it calls make is longer than what came in: it says more and counts as full. Else prove '..UptoSaid'. A law counts once. -/
mutual
def uptoBulk {H : Type} : DataW H → Nat
  | .lit (.string bytes) => bytes.length + 1
  | .lit _ => 1
  | .nil => 1
  | .ptr d => uptoBulk d + 1
  | .slice elems spare => uptoBulkAll elems + uptoBulkAll spare + 1
  | .agg parts => uptoBulkAll parts + 1
  | .iface _ d => uptoBulk d + 1
  | .map entries => uptoBulkEntries entries + 1
  | .held _ => 1
def uptoBulkAll {H : Type} : List (DataW H) → Nat
  | [] => 0
  | d :: r => uptoBulk d + uptoBulkAll r
def uptoBulkEntries {H : Type} : List (Lit × DataW H) → Nat
  | [] => 0
  | x :: r => uptoBulkEntry x + uptoBulkEntries r
def uptoBulkEntry {H : Type} : Lit × DataW H → Nat
  | (.string bytes, d) => bytes.length + uptoBulk d + 1
  | (_, d) => uptoBulk d + 1
 end
def uptoSmall : (H : Type) → List (DataW H) → Bool := fun _ ds => decide (uptoBulkAll ds ≤ 1048576)
def OpenSpec.upto (s : _root_.Go.ChangeSpec) : _root_.Go.OpenSpec := { _root_.Go.OpenSpec.ofChange s with cond := some uptoSmall }

/-- 'laws.FnUncrossed', WHERE WHAT IT READS IS OF BULK AT MOST 1048576: true; the input reads as it did. -/
def fnUncrossedUptoRow : OpenClaim := { program := "ytkbfbifepaoojaagreatdoor", sum := "8ad6f7c254003792b3bf94bfafd45804e8297096f8ea4f2eb0443a11a766c683", func := "loop.example/g00961/laws.FnUncrossed", spec := "fnUncrossed", inPlace := ["internal/reflectlite.ValueOf", "(internal/reflectlite.Value).Type", "(internal/reflectlite.Value).IsNil", "internal/reflectlite.TypeOf", "(internal/reflectlite.Value).Elem", "(internal/reflectlite.Value).Set"], unfollowed := true, recurses := true, named := ["loop.example/g00961/impl.sideSteps", "errors.errorType"], plainKeys := false, apart := false, laid := [("errors.errorType", laid_errors_errorType), ("loop.example/g00961/impl.sideSteps", laid_loop_example_g00961_impl_sideSteps)], narrowed := true }
def FnUncrossedUptoSaid : Prop := fnUncrossedUptoRow.holds Tryz.pinned (OpenSpec.upto fnUncrossedSpec)

/-- 'laws.FnPlans', WHERE WHAT IT READS IS OF BULK AT MOST 1048576: true; the input reads as it did. -/
def fnPlansUptoRow : OpenClaim := { program := "ytkbfbifepaoojaagreatdoor", sum := "8ad6f7c254003792b3bf94bfafd45804e8297096f8ea4f2eb0443a11a766c683", func := "loop.example/g00961/laws.FnPlans", spec := "fnPlans", inPlace := ["internal/reflectlite.ValueOf", "(internal/reflectlite.Value).Type", "(internal/reflectlite.Value).IsNil", "internal/reflectlite.TypeOf", "(internal/reflectlite.Value).Elem", "(internal/reflectlite.Value).Set"], unfollowed := true, recurses := true, named := ["loop.example/g00961/impl.sideSteps", "errors.errorType"], plainKeys := false, apart := false, laid := [("errors.errorType", laid_errors_errorType), ("loop.example/g00961/impl.sideSteps", laid_loop_example_g00961_impl_sideSteps)], narrowed := true }
def FnPlansUptoSaid : Prop := fnPlansUptoRow.holds Tryz.pinned (OpenSpec.upto fnPlansSpec)

/-- 'laws.FnWaysBack', WHERE WHAT IT READS IS OF BULK AT MOST 1048576: true; the input reads as it did. -/
def fnWaysBackUptoRow : OpenClaim := { program := "ytkbfbifepaoojaagreatdoor", sum := "8ad6f7c254003792b3bf94bfafd45804e8297096f8ea4f2eb0443a11a766c683", func := "loop.example/g00961/laws.FnWaysBack", spec := "fnWaysBack", unfollowed := true, recurses := true, named := ["loop.example/g00961/impl.sideSteps"], plainKeys := false, apart := false, laid := [("loop.example/g00961/impl.sideSteps", laid_loop_example_g00961_impl_sideSteps)], narrowed := true }
def FnWaysBackUptoSaid : Prop := fnWaysBackUptoRow.holds Tryz.pinned (OpenSpec.upto fnWaysBackSpec)

end Rows
end Go.Proofs.YtkbfbifepaoojaaGreatDoor
