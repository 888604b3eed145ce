/-
  No cell of these rows narrows 'for every input' (looked for: loops, veiled, ifaces, maps, wideKeys, modest, calm, conditions, laid).
  DERIVED. THE GIVEN ROWS OF THIS SEAT. 4 by the template 'for every input the law returns true; each argument reads behind the call as it read before'; 0 by the template 'total and deterministic' (their statements: YthnmapomhgjblaaTotals.lean).
  GIVEN WITH THE SEED: the statements are not yours to turn. If you find one false, say at which input.
  Laid BY PROGRAM, IN A SANDBOX (cutbox-rows.mjs): the forced cells as the released guide's own fill.sh prints them over the translation c7cada449371c68b… (all of the seat's roots in one cut). By AI agents, Wed Nov 11 2026. No macro, syntax, notation, axiom, sorry.
-/
import Derived.Test.YthnmapomhgjblaaChecked
import GoSem.Claim
import GoSem.ClaimJoined
import GoSem.ClaimMapViews
import Derived.JoinedTies
import Derived.KernelRfl
namespace Go.Proofs.Ythnmapomhgjblaa
/- THE CELL 'sum', in the pinned program and in every row, IS THE sha256 OF THE DUMP (.gsa) THAT YthnmapomhgjblaaProg.lean LOADS. Nothing in Lean hashes anything: it is a label: what it is worth is what the hold of that sum in a sandbox is worth. -/
noncomputable def Try.pinned : Pinned := { name := "ythnmapomhgjblaa", sum := "c7cada449371c68b0a0dbe0c793fc91f2d2ae8feb867214623bd5e84e227c94b", checked := Try.checked }
namespace Rows
def none {H : Type} : Left H := { results := [], args := [] }

/-- 'laws.FnExactLevelWays': WHATEVER THE INPUT: true; the input reads as it did. -/
def fnExactLevelWaysSpec : ChangeSpec := { name := "fnExactLevelWays", fn := fun _ => fun
  | [d1, d2] => { results := [.lit (.bool true)], args := [d1, d2] }
  | _ => none }
def fnExactLevelWaysRow : OpenClaim := { program := "ythnmapomhgjblaa", sum := "c7cada449371c68b0a0dbe0c793fc91f2d2ae8feb867214623bd5e84e227c94b", func := "loop.example/g00961/laws.FnExactLevelWays", spec := "fnExactLevelWays", apart := false }
def FnExactLevelWaysSaid : Prop := fnExactLevelWaysRow.holds Try.pinned (OpenSpec.ofChange fnExactLevelWaysSpec)

/-- ITS FALSE NEIGHBOUR: 'it returns false'. Refute it at one input. -/
def fnExactLevelWaysWrong : ChangeSpec := { name := "fnExactLevelWays", fn := fun _ => fun
  | [d1, d2] => { results := [.lit (.bool false)], args := [d1, d2] }
  | _ => none }
def FnExactLevelWaysWrongFalsely : Prop := fnExactLevelWaysRow.holds Try.pinned (OpenSpec.ofChange fnExactLevelWaysWrong)

/-- 'laws.FnExactMeetAt': WHATEVER THE INPUT: true; the input reads as it did. -/
def fnExactMeetAtSpec : ChangeSpec := { name := "fnExactMeetAt", fn := fun _ => fun
  | [d1, d2] => { results := [.lit (.bool true)], args := [d1, d2] }
  | _ => none }
def fnExactMeetAtRow : OpenClaim := { program := "ythnmapomhgjblaa", sum := "c7cada449371c68b0a0dbe0c793fc91f2d2ae8feb867214623bd5e84e227c94b", func := "loop.example/g00961/laws.FnExactMeetAt", spec := "fnExactMeetAt", recurses := true, apart := false }
def FnExactMeetAtSaid : Prop := fnExactMeetAtRow.holds Try.pinned (OpenSpec.ofChange fnExactMeetAtSpec)

/-- ITS FALSE NEIGHBOUR: 'it returns false'. Refute it at one input. -/
def fnExactMeetAtWrong : ChangeSpec := { name := "fnExactMeetAt", fn := fun _ => fun
  | [d1, d2] => { results := [.lit (.bool false)], args := [d1, d2] }
  | _ => none }
def FnExactMeetAtWrongFalsely : Prop := fnExactMeetAtRow.holds Try.pinned (OpenSpec.ofChange fnExactMeetAtWrong)

/-- 'laws.FnExactSwapsAt': WHATEVER THE INPUT: true; the input reads as it did. -/
def fnExactSwapsAtSpec : ChangeSpec := { name := "fnExactSwapsAt", fn := fun _ => fun
  | [d1, d2] => { results := [.lit (.bool true)], args := [d1, d2] }
  | _ => none }
def fnExactSwapsAtRow : OpenClaim := { program := "ythnmapomhgjblaa", sum := "c7cada449371c68b0a0dbe0c793fc91f2d2ae8feb867214623bd5e84e227c94b", func := "loop.example/g00961/laws.FnExactSwapsAt", spec := "fnExactSwapsAt", unfollowed := true, recurses := true, apart := false }
def FnExactSwapsAtSaid : Prop := fnExactSwapsAtRow.holds Try.pinned (OpenSpec.ofChange fnExactSwapsAtSpec)

/-- ITS FALSE NEIGHBOUR: 'it returns false'. Refute it at one input. -/
def fnExactSwapsAtWrong : ChangeSpec := { name := "fnExactSwapsAt", fn := fun _ => fun
  | [d1, d2] => { results := [.lit (.bool false)], args := [d1, d2] }
  | _ => none }
def FnExactSwapsAtWrongFalsely : Prop := fnExactSwapsAtRow.holds Try.pinned (OpenSpec.ofChange fnExactSwapsAtWrong)

/-- 'laws.FnExactRingsAt': WHATEVER THE INPUT: true; the input reads as it did. -/
def fnExactRingsAtSpec : ChangeSpec := { name := "fnExactRingsAt", fn := fun _ => fun
  | [d1, d2] => { results := [.lit (.bool true)], args := [d1, d2] }
  | _ => none }
def fnExactRingsAtRow : OpenClaim := { program := "ythnmapomhgjblaa", sum := "c7cada449371c68b0a0dbe0c793fc91f2d2ae8feb867214623bd5e84e227c94b", func := "loop.example/g00961/laws.FnExactRingsAt", spec := "fnExactRingsAt", unfollowed := true, recurses := true, apart := false }
def FnExactRingsAtSaid : Prop := fnExactRingsAtRow.holds Try.pinned (OpenSpec.ofChange fnExactRingsAtSpec)

/-- ITS FALSE NEIGHBOUR: 'it returns false'. Refute it at one input. -/
def fnExactRingsAtWrong : ChangeSpec := { name := "fnExactRingsAt", fn := fun _ => fun
  | [d1, d2] => { results := [.lit (.bool false)], args := [d1, d2] }
  | _ => none }
def FnExactRingsAtWrongFalsely : Prop := fnExactRingsAtRow.holds Try.pinned (OpenSpec.ofChange fnExactRingsAtWrong)

/- THE SECOND FORM. 'bulk': how many values and letters a reading holds, each counted each time it is reached (what is shared counts as often as it is met; a slice's spare places count too). A statement '..UptoSaid' is the law's where the arguments, and the package variables that the reading takes, are together of bulk at most 1048576: NARROWER than '..Said'. Prove '..Said' where nothing that the law and all that it calls make is longer than what came in: it says more and counts as full. Else prove '..UptoSaid'. A law counts once. -/
mutual
def uptoBulk {H : Type} : DataW H → Nat
  | .lit (.string bytes) => bytes.length + 1
  | .lit _ => 1
  | .nil => 1
  | .ptr d => uptoBulk d + 1
  | .slice elems spare => uptoBulkAll elems + uptoBulkAll spare + 1
  | .agg parts => uptoBulkAll parts + 1
  | .iface _ d => uptoBulk d + 1
  | .map entries => uptoBulkEntries entries + 1
  | .held _ => 1
def uptoBulkAll {H : Type} : List (DataW H) → Nat
  | [] => 0
  | d :: r => uptoBulk d + uptoBulkAll r
def uptoBulkEntries {H : Type} : List (Lit × DataW H) → Nat
  | [] => 0
  | x :: r => uptoBulkEntry x + uptoBulkEntries r
def uptoBulkEntry {H : Type} : Lit × DataW H → Nat
  | (.string bytes, d) => bytes.length + uptoBulk d + 1
  | (_, d) => uptoBulk d + 1
 end
def uptoSmall : (H : Type) → List (DataW H) → Bool := fun _ ds => decide (uptoBulkAll ds ≤ 1048576)
def OpenSpec.upto (s : _root_.Go.ChangeSpec) : _root_.Go.OpenSpec := { _root_.Go.OpenSpec.ofChange s with cond := some uptoSmall }

/-- 'laws.FnExactLevelWays', WHERE WHAT IT READS IS OF BULK AT MOST 1048576: true; the input reads as it did. -/
def fnExactLevelWaysUptoRow : OpenClaim := { program := "ythnmapomhgjblaa", sum := "c7cada449371c68b0a0dbe0c793fc91f2d2ae8feb867214623bd5e84e227c94b", func := "loop.example/g00961/laws.FnExactLevelWays", spec := "fnExactLevelWays", apart := false, narrowed := true }
def FnExactLevelWaysUptoSaid : Prop := fnExactLevelWaysUptoRow.holds Try.pinned (OpenSpec.upto fnExactLevelWaysSpec)

/-- 'laws.FnExactMeetAt', WHERE WHAT IT READS IS OF BULK AT MOST 1048576: true; the input reads as it did. -/
def fnExactMeetAtUptoRow : OpenClaim := { program := "ythnmapomhgjblaa", sum := "c7cada449371c68b0a0dbe0c793fc91f2d2ae8feb867214623bd5e84e227c94b", func := "loop.example/g00961/laws.FnExactMeetAt", spec := "fnExactMeetAt", recurses := true, apart := false, narrowed := true }
def FnExactMeetAtUptoSaid : Prop := fnExactMeetAtUptoRow.holds Try.pinned (OpenSpec.upto fnExactMeetAtSpec)

/-- 'laws.FnExactSwapsAt', WHERE WHAT IT READS IS OF BULK AT MOST 1048576: true; the input reads as it did. -/
def fnExactSwapsAtUptoRow : OpenClaim := { program := "ythnmapomhgjblaa", sum := "c7cada449371c68b0a0dbe0c793fc91f2d2ae8feb867214623bd5e84e227c94b", func := "loop.example/g00961/laws.FnExactSwapsAt", spec := "fnExactSwapsAt", unfollowed := true, recurses := true, apart := false, narrowed := true }
def FnExactSwapsAtUptoSaid : Prop := fnExactSwapsAtUptoRow.holds Try.pinned (OpenSpec.upto fnExactSwapsAtSpec)

/-- 'laws.FnExactRingsAt', WHERE WHAT IT READS IS OF BULK AT MOST 1048576: true; the input reads as it did. -/
def fnExactRingsAtUptoRow : OpenClaim := { program := "ythnmapomhgjblaa", sum := "c7cada449371c68b0a0dbe0c793fc91f2d2ae8feb867214623bd5e84e227c94b", func := "loop.example/g00961/laws.FnExactRingsAt", spec := "fnExactRingsAt", unfollowed := true, recurses := true, apart := false, narrowed := true }
def FnExactRingsAtUptoSaid : Prop := fnExactRingsAtUptoRow.holds Try.pinned (OpenSpec.upto fnExactRingsAtSpec)

end Rows
end Go.Proofs.Ythnmapomhgjblaa
