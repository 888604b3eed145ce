/-
  No cell of these rows narrows 'for every input' (looked for: loops, veiled, ifaces, maps, wideKeys, modest, calm, conditions, laid).
  DERIVED. THE GIVEN ROWS OF THIS SEAT. 3 by the template 'for every input the law returns true; each argument reads behind the call as it read before'; 0 by the template 'total and deterministic' (their statements: YtkndlpcpkfgneaaTotals.lean).
  GIVEN WITH THE SEED: the statements are not yours to turn. If you find one false, say at which input.
  Laid BY PROGRAM, IN A SANDBOX (cutbox-rows.mjs): the forced cells as the released guide's own fill.sh prints them over the translation 4ba0c33bb53db519… (all of the seat's roots in one cut). By AI agents, Wed Nov 11 2026. No macro, syntax, notation, axiom, sorry.
-/
import Derived.Test.YtkndlpcpkfgneaaChecked
import GoSem.Claim
import GoSem.ClaimJoined
import GoSem.ClaimMapViews
import Derived.JoinedTies
import Derived.KernelRfl
namespace Go.Proofs.Ytkndlpcpkfgneaa
/- THE CELL 'sum', in the pinned program and in every row, IS THE sha256 OF THE DUMP (.gsa) THAT YtkndlpcpkfgneaaProg.lean LOADS. Nothing in Lean hashes anything: it is a label: what it is worth is what the hold of that sum in a sandbox is worth. -/
noncomputable def Try.pinned : Pinned := { name := "ytkndlpcpkfgneaa", sum := "4ba0c33bb53db519972faf023adaf237550d5be2b097fd8790dd395272cee9a7", checked := Try.checked }
namespace Rows
def none {H : Type} : Left H := { results := [], args := [] }

/-- 'laws.FnExactUncrossed': WHATEVER THE INPUT: true; the input reads as it did. -/
def fnExactUncrossedSpec : ChangeSpec := { name := "fnExactUncrossed", fn := fun _ => fun
  | [d] => { results := [.lit (.bool true)], args := [d] }
  | _ => none }
def fnExactUncrossedRow : OpenClaim := { program := "ytkndlpcpkfgneaa", sum := "4ba0c33bb53db519972faf023adaf237550d5be2b097fd8790dd395272cee9a7", func := "loop.example/g00961/laws.FnExactUncrossed", spec := "fnExactUncrossed", unfollowed := true, recurses := true, apart := false }
def FnExactUncrossedSaid : Prop := fnExactUncrossedRow.holds Try.pinned (OpenSpec.ofChange fnExactUncrossedSpec)

/-- ITS FALSE NEIGHBOUR: 'it returns false'. Refute it at one input. -/
def fnExactUncrossedWrong : ChangeSpec := { name := "fnExactUncrossed", fn := fun _ => fun
  | [d] => { results := [.lit (.bool false)], args := [d] }
  | _ => none }
def FnExactUncrossedWrongFalsely : Prop := fnExactUncrossedRow.holds Try.pinned (OpenSpec.ofChange fnExactUncrossedWrong)

/-- 'laws.FnExactCrossings': WHATEVER THE INPUT: true; the input reads as it did. -/
def fnExactCrossingsSpec : ChangeSpec := { name := "fnExactCrossings", fn := fun _ => fun
  | [d] => { results := [.lit (.bool true)], args := [d] }
  | _ => none }
def fnExactCrossingsRow : OpenClaim := { program := "ytkndlpcpkfgneaa", sum := "4ba0c33bb53db519972faf023adaf237550d5be2b097fd8790dd395272cee9a7", func := "loop.example/g00961/laws.FnExactCrossings", spec := "fnExactCrossings", unfollowed := true, recurses := true, apart := false }
def FnExactCrossingsSaid : Prop := fnExactCrossingsRow.holds Try.pinned (OpenSpec.ofChange fnExactCrossingsSpec)

/-- ITS FALSE NEIGHBOUR: 'it returns false'. Refute it at one input. -/
def fnExactCrossingsWrong : ChangeSpec := { name := "fnExactCrossings", fn := fun _ => fun
  | [d] => { results := [.lit (.bool false)], args := [d] }
  | _ => none }
def FnExactCrossingsWrongFalsely : Prop := fnExactCrossingsRow.holds Try.pinned (OpenSpec.ofChange fnExactCrossingsWrong)

/-- 'laws.FnExactSameStands': WHATEVER THE INPUT: true; the input reads as it did. -/
def fnExactSameStandsSpec : ChangeSpec := { name := "fnExactSameStands", fn := fun _ => fun
  | [d1, d2] => { results := [.lit (.bool true)], args := [d1, d2] }
  | _ => none }
def fnExactSameStandsRow : OpenClaim := { program := "ytkndlpcpkfgneaa", sum := "4ba0c33bb53db519972faf023adaf237550d5be2b097fd8790dd395272cee9a7", func := "loop.example/g00961/laws.FnExactSameStands", spec := "fnExactSameStands", unfollowed := true, recurses := true, apart := false }
def FnExactSameStandsSaid : Prop := fnExactSameStandsRow.holds Try.pinned (OpenSpec.ofChange fnExactSameStandsSpec)

/-- ITS FALSE NEIGHBOUR: 'it returns false'. Refute it at one input. -/
def fnExactSameStandsWrong : ChangeSpec := { name := "fnExactSameStands", fn := fun _ => fun
  | [d1, d2] => { results := [.lit (.bool false)], args := [d1, d2] }
  | _ => none }
def FnExactSameStandsWrongFalsely : Prop := fnExactSameStandsRow.holds Try.pinned (OpenSpec.ofChange fnExactSameStandsWrong)

/- THE SECOND FORM. 'bulk': how many values and letters a reading holds, each counted each time it is reached (what is shared counts as often as it is met; a slice's spare places count too). A statement '..UptoSaid' is the law's where the arguments, and the package variables that the reading takes, are together of bulk at most 1048576: NARROWER than '..Said'. Prove '..Said' where nothing that the law and all that it calls make is longer than what came in: it says more and counts as full. Else prove '..UptoSaid'. A law counts once. -/
mutual
def uptoBulk {H : Type} : DataW H → Nat
  | .lit (.string bytes) => bytes.length + 1
  | .lit _ => 1
  | .nil => 1
  | .ptr d => uptoBulk d + 1
  | .slice elems spare => uptoBulkAll elems + uptoBulkAll spare + 1
  | .agg parts => uptoBulkAll parts + 1
  | .iface _ d => uptoBulk d + 1
  | .map entries => uptoBulkEntries entries + 1
  | .held _ => 1
def uptoBulkAll {H : Type} : List (DataW H) → Nat
  | [] => 0
  | d :: r => uptoBulk d + uptoBulkAll r
def uptoBulkEntries {H : Type} : List (Lit × DataW H) → Nat
  | [] => 0
  | x :: r => uptoBulkEntry x + uptoBulkEntries r
def uptoBulkEntry {H : Type} : Lit × DataW H → Nat
  | (.string bytes, d) => bytes.length + uptoBulk d + 1
  | (_, d) => uptoBulk d + 1
 end
def uptoSmall : (H : Type) → List (DataW H) → Bool := fun _ ds => decide (uptoBulkAll ds ≤ 1048576)
def OpenSpec.upto (s : _root_.Go.ChangeSpec) : _root_.Go.OpenSpec := { _root_.Go.OpenSpec.ofChange s with cond := some uptoSmall }

/-- 'laws.FnExactUncrossed', WHERE WHAT IT READS IS OF BULK AT MOST 1048576: true; the input reads as it did. -/
def fnExactUncrossedUptoRow : OpenClaim := { program := "ytkndlpcpkfgneaa", sum := "4ba0c33bb53db519972faf023adaf237550d5be2b097fd8790dd395272cee9a7", func := "loop.example/g00961/laws.FnExactUncrossed", spec := "fnExactUncrossed", unfollowed := true, recurses := true, apart := false, narrowed := true }
def FnExactUncrossedUptoSaid : Prop := fnExactUncrossedUptoRow.holds Try.pinned (OpenSpec.upto fnExactUncrossedSpec)

/-- 'laws.FnExactCrossings', WHERE WHAT IT READS IS OF BULK AT MOST 1048576: true; the input reads as it did. -/
def fnExactCrossingsUptoRow : OpenClaim := { program := "ytkndlpcpkfgneaa", sum := "4ba0c33bb53db519972faf023adaf237550d5be2b097fd8790dd395272cee9a7", func := "loop.example/g00961/laws.FnExactCrossings", spec := "fnExactCrossings", unfollowed := true, recurses := true, apart := false, narrowed := true }
def FnExactCrossingsUptoSaid : Prop := fnExactCrossingsUptoRow.holds Try.pinned (OpenSpec.upto fnExactCrossingsSpec)

/-- 'laws.FnExactSameStands', WHERE WHAT IT READS IS OF BULK AT MOST 1048576: true; the input reads as it did. -/
def fnExactSameStandsUptoRow : OpenClaim := { program := "ytkndlpcpkfgneaa", sum := "4ba0c33bb53db519972faf023adaf237550d5be2b097fd8790dd395272cee9a7", func := "loop.example/g00961/laws.FnExactSameStands", spec := "fnExactSameStands", unfollowed := true, recurses := true, apart := false, narrowed := true }
def FnExactSameStandsUptoSaid : Prop := fnExactSameStandsUptoRow.holds Try.pinned (OpenSpec.upto fnExactSameStandsSpec)

end Rows
end Go.Proofs.Ytkndlpcpkfgneaa
