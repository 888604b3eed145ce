/-
  No cell of these rows narrows 'for every input' (looked for: loops, veiled, ifaces, maps, wideKeys, modest, calm, conditions, laid).
  DERIVED. THE GIVEN ROWS OF THIS SEAT. 4 by the template 'for every input the law returns true; each argument reads behind the call as it read before'; 0 by the template 'total and deterministic' (their statements: YtekimmlpfabhhaaTotals.lean).
  GIVEN WITH THE SEED: the statements are not yours to turn. If you find one false, say at which input.
  Laid BY PROGRAM, IN A SANDBOX (cutbox-rows.mjs): the forced cells as the released guide's own fill.sh prints them over the translation 5484cbfa13a11980… (all of the seat's roots in one cut). By AI agents, Wed Nov 11 2026. No macro, syntax, notation, axiom, sorry.
-/
import Derived.Test.YtekimmlpfabhhaaChecked
import GoSem.Claim
import GoSem.ClaimJoined
import GoSem.ClaimMapViews
import Derived.JoinedTies
import Derived.KernelRfl
namespace Go.Proofs.Ytekimmlpfabhhaa
/- THE CELL 'sum', in the pinned program and in every row, IS THE sha256 OF THE DUMP (.gsa) THAT YtekimmlpfabhhaaProg.lean LOADS. Nothing in Lean hashes anything: it is a label: what it is worth is what the hold of that sum in a sandbox is worth. -/
noncomputable def Try.pinned : Pinned := { name := "ytekimmlpfabhhaa", sum := "5484cbfa13a119801d10912a60fd773183a1089fdcd19e0cf1f92575590789bd", checked := Try.checked }
namespace Rows
def none {H : Type} : Left H := { results := [], args := [] }

/-- 'laws.FnExactMostFlow': WHATEVER THE INPUT: true; the input reads as it did. -/
def fnExactMostFlowSpec : ChangeSpec := { name := "fnExactMostFlow", fn := fun _ => fun
  | [d] => { results := [.lit (.bool true)], args := [d] }
  | _ => none }
def fnExactMostFlowRow : OpenClaim := { program := "ytekimmlpfabhhaa", sum := "5484cbfa13a119801d10912a60fd773183a1089fdcd19e0cf1f92575590789bd", func := "loop.example/g00961/laws.FnExactMostFlow", spec := "fnExactMostFlow", apart := false }
def FnExactMostFlowSaid : Prop := fnExactMostFlowRow.holds Try.pinned (OpenSpec.ofChange fnExactMostFlowSpec)

/-- ITS FALSE NEIGHBOUR: 'it returns false'. Refute it at one input. -/
def fnExactMostFlowWrong : ChangeSpec := { name := "fnExactMostFlow", fn := fun _ => fun
  | [d] => { results := [.lit (.bool false)], args := [d] }
  | _ => none }
def FnExactMostFlowWrongFalsely : Prop := fnExactMostFlowRow.holds Try.pinned (OpenSpec.ofChange fnExactMostFlowWrong)

/-- 'laws.FnExactCutOk': WHATEVER THE INPUT: true; the input reads as it did. -/
def fnExactCutOkSpec : ChangeSpec := { name := "fnExactCutOk", fn := fun _ => fun
  | [d1, d2] => { results := [.lit (.bool true)], args := [d1, d2] }
  | _ => none }
def fnExactCutOkRow : OpenClaim := { program := "ytekimmlpfabhhaa", sum := "5484cbfa13a119801d10912a60fd773183a1089fdcd19e0cf1f92575590789bd", func := "loop.example/g00961/laws.FnExactCutOk", spec := "fnExactCutOk", apart := false }
def FnExactCutOkSaid : Prop := fnExactCutOkRow.holds Try.pinned (OpenSpec.ofChange fnExactCutOkSpec)

/-- ITS FALSE NEIGHBOUR: 'it returns false'. Refute it at one input. -/
def fnExactCutOkWrong : ChangeSpec := { name := "fnExactCutOk", fn := fun _ => fun
  | [d1, d2] => { results := [.lit (.bool false)], args := [d1, d2] }
  | _ => none }
def FnExactCutOkWrongFalsely : Prop := fnExactCutOkRow.holds Try.pinned (OpenSpec.ofChange fnExactCutOkWrong)

/-- 'laws.FnExactCutRoom': WHATEVER THE INPUT: true; the input reads as it did. -/
def fnExactCutRoomSpec : ChangeSpec := { name := "fnExactCutRoom", fn := fun _ => fun
  | [d1, d2] => { results := [.lit (.bool true)], args := [d1, d2] }
  | _ => none }
def fnExactCutRoomRow : OpenClaim := { program := "ytekimmlpfabhhaa", sum := "5484cbfa13a119801d10912a60fd773183a1089fdcd19e0cf1f92575590789bd", func := "loop.example/g00961/laws.FnExactCutRoom", spec := "fnExactCutRoom", apart := false }
def FnExactCutRoomSaid : Prop := fnExactCutRoomRow.holds Try.pinned (OpenSpec.ofChange fnExactCutRoomSpec)

/-- ITS FALSE NEIGHBOUR: 'it returns false'. Refute it at one input. -/
def fnExactCutRoomWrong : ChangeSpec := { name := "fnExactCutRoom", fn := fun _ => fun
  | [d1, d2] => { results := [.lit (.bool false)], args := [d1, d2] }
  | _ => none }
def FnExactCutRoomWrongFalsely : Prop := fnExactCutRoomRow.holds Try.pinned (OpenSpec.ofChange fnExactCutRoomWrong)

/-- 'laws.FnExactStopped': WHATEVER THE INPUT: true; the input reads as it did. -/
def fnExactStoppedSpec : ChangeSpec := { name := "fnExactStopped", fn := fun _ => fun
  | [d1, d2, d3] => { results := [.lit (.bool true)], args := [d1, d2, d3] }
  | _ => none }
def fnExactStoppedRow : OpenClaim := { program := "ytekimmlpfabhhaa", sum := "5484cbfa13a119801d10912a60fd773183a1089fdcd19e0cf1f92575590789bd", func := "loop.example/g00961/laws.FnExactStopped", spec := "fnExactStopped", apart := false }
def FnExactStoppedSaid : Prop := fnExactStoppedRow.holds Try.pinned (OpenSpec.ofChange fnExactStoppedSpec)

/-- ITS FALSE NEIGHBOUR: 'it returns false'. Refute it at one input. -/
def fnExactStoppedWrong : ChangeSpec := { name := "fnExactStopped", fn := fun _ => fun
  | [d1, d2, d3] => { results := [.lit (.bool false)], args := [d1, d2, d3] }
  | _ => none }
def FnExactStoppedWrongFalsely : Prop := fnExactStoppedRow.holds Try.pinned (OpenSpec.ofChange fnExactStoppedWrong)

/- THE SECOND FORM. 'bulk': how many values and letters a reading holds, each counted each time it is reached (what is shared counts as often as it is met; a slice's spare places count too). A statement '..UptoSaid' is the law's where the arguments, and the package variables that the reading takes, are together of bulk at most 1048576: NARROWER than '..Said'. Prove '..Said' where nothing that the law and all that it calls make is longer than what came in: it says more and counts as full. Else prove '..UptoSaid'. A law counts once. -/
mutual
def uptoBulk {H : Type} : DataW H → Nat
  | .lit (.string bytes) => bytes.length + 1
  | .lit _ => 1
  | .nil => 1
  | .ptr d => uptoBulk d + 1
  | .slice elems spare => uptoBulkAll elems + uptoBulkAll spare + 1
  | .agg parts => uptoBulkAll parts + 1
  | .iface _ d => uptoBulk d + 1
  | .map entries => uptoBulkEntries entries + 1
  | .held _ => 1
def uptoBulkAll {H : Type} : List (DataW H) → Nat
  | [] => 0
  | d :: r => uptoBulk d + uptoBulkAll r
def uptoBulkEntries {H : Type} : List (Lit × DataW H) → Nat
  | [] => 0
  | x :: r => uptoBulkEntry x + uptoBulkEntries r
def uptoBulkEntry {H : Type} : Lit × DataW H → Nat
  | (.string bytes, d) => bytes.length + uptoBulk d + 1
  | (_, d) => uptoBulk d + 1
 end
def uptoSmall : (H : Type) → List (DataW H) → Bool := fun _ ds => decide (uptoBulkAll ds ≤ 1048576)
def OpenSpec.upto (s : _root_.Go.ChangeSpec) : _root_.Go.OpenSpec := { _root_.Go.OpenSpec.ofChange s with cond := some uptoSmall }

/-- 'laws.FnExactMostFlow', WHERE WHAT IT READS IS OF BULK AT MOST 1048576: true; the input reads as it did. -/
def fnExactMostFlowUptoRow : OpenClaim := { program := "ytekimmlpfabhhaa", sum := "5484cbfa13a119801d10912a60fd773183a1089fdcd19e0cf1f92575590789bd", func := "loop.example/g00961/laws.FnExactMostFlow", spec := "fnExactMostFlow", apart := false, narrowed := true }
def FnExactMostFlowUptoSaid : Prop := fnExactMostFlowUptoRow.holds Try.pinned (OpenSpec.upto fnExactMostFlowSpec)

/-- 'laws.FnExactCutOk', WHERE WHAT IT READS IS OF BULK AT MOST 1048576: true; the input reads as it did. -/
def fnExactCutOkUptoRow : OpenClaim := { program := "ytekimmlpfabhhaa", sum := "5484cbfa13a119801d10912a60fd773183a1089fdcd19e0cf1f92575590789bd", func := "loop.example/g00961/laws.FnExactCutOk", spec := "fnExactCutOk", apart := false, narrowed := true }
def FnExactCutOkUptoSaid : Prop := fnExactCutOkUptoRow.holds Try.pinned (OpenSpec.upto fnExactCutOkSpec)

/-- 'laws.FnExactCutRoom', WHERE WHAT IT READS IS OF BULK AT MOST 1048576: true; the input reads as it did. -/
def fnExactCutRoomUptoRow : OpenClaim := { program := "ytekimmlpfabhhaa", sum := "5484cbfa13a119801d10912a60fd773183a1089fdcd19e0cf1f92575590789bd", func := "loop.example/g00961/laws.FnExactCutRoom", spec := "fnExactCutRoom", apart := false, narrowed := true }
def FnExactCutRoomUptoSaid : Prop := fnExactCutRoomUptoRow.holds Try.pinned (OpenSpec.upto fnExactCutRoomSpec)

/-- 'laws.FnExactStopped', WHERE WHAT IT READS IS OF BULK AT MOST 1048576: true; the input reads as it did. -/
def fnExactStoppedUptoRow : OpenClaim := { program := "ytekimmlpfabhhaa", sum := "5484cbfa13a119801d10912a60fd773183a1089fdcd19e0cf1f92575590789bd", func := "loop.example/g00961/laws.FnExactStopped", spec := "fnExactStopped", apart := false, narrowed := true }
def FnExactStoppedUptoSaid : Prop := fnExactStoppedUptoRow.holds Try.pinned (OpenSpec.upto fnExactStoppedSpec)

end Rows
end Go.Proofs.Ytekimmlpfabhhaa
