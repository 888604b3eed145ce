/-
  No cell of these rows narrows 'for every input' (looked for: loops, veiled, ifaces, maps, wideKeys, modest, calm, conditions, laid).
  DERIVED. THE GIVEN ROWS OF THIS SEAT. 7 by the template 'for every input the law returns true; each argument reads behind the call as it read before'; 0 by the template 'total and deterministic' (their statements: YtpihkmjmolmgcaaTotals.lean).
  GIVEN WITH THE SEED: the statements are not yours to turn. If you find one false, say at which input.
  Laid BY PROGRAM, IN A SANDBOX (cutbox-rows.mjs): the forced cells as the released guide's own fill.sh prints them over the translation fced99d1ebccb5d7… (all of the seat's roots in one cut). By AI agents, Wed Nov 11 2026. No macro, syntax, notation, axiom, sorry.
-/
import Derived.Test.YtpihkmjmolmgcaaChecked
import GoSem.Claim
import GoSem.ClaimJoined
import GoSem.ClaimMapViews
import Derived.JoinedTies
import Derived.KernelRfl
namespace Go.Proofs.Ytpihkmjmolmgcaa
/- THE CELL 'sum', in the pinned program and in every row, IS THE sha256 OF THE DUMP (.gsa) THAT YtpihkmjmolmgcaaProg.lean LOADS. Nothing in Lean hashes anything: it is a label: what it is worth is what the hold of that sum in a sandbox is worth. -/
noncomputable def Try.pinned : Pinned := { name := "ytpihkmjmolmgcaa", sum := "fced99d1ebccb5d7b45c181f0647856d136d225bfb6dce43afdf37cddb72f112", checked := Try.checked }
namespace Rows
def none {H : Type} : Left H := { results := [], args := [] }

/-- 'laws.FnFlows': WHATEVER THE INPUT: true; the input reads as it did. -/
def fnFlowsSpec : ChangeSpec := { name := "fnFlows", fn := fun _ => fun
  | [d] => { results := [.lit (.bool true)], args := [d] }
  | _ => none }
def fnFlowsRow : OpenClaim := { program := "ytpihkmjmolmgcaa", sum := "fced99d1ebccb5d7b45c181f0647856d136d225bfb6dce43afdf37cddb72f112", func := "loop.example/g00961/laws.FnFlows", spec := "fnFlows", apart := false }
def FnFlowsSaid : Prop := fnFlowsRow.holds Try.pinned (OpenSpec.ofChange fnFlowsSpec)

/-- ITS FALSE NEIGHBOUR: 'it returns false'. Refute it at one input. -/
def fnFlowsWrong : ChangeSpec := { name := "fnFlows", fn := fun _ => fun
  | [d] => { results := [.lit (.bool false)], args := [d] }
  | _ => none }
def FnFlowsWrongFalsely : Prop := fnFlowsRow.holds Try.pinned (OpenSpec.ofChange fnFlowsWrong)

/-- 'laws.FnExactNetOk': WHATEVER THE INPUT: true; the input reads as it did. -/
def fnExactNetOkSpec : ChangeSpec := { name := "fnExactNetOk", fn := fun _ => fun
  | [d] => { results := [.lit (.bool true)], args := [d] }
  | _ => none }
def fnExactNetOkRow : OpenClaim := { program := "ytpihkmjmolmgcaa", sum := "fced99d1ebccb5d7b45c181f0647856d136d225bfb6dce43afdf37cddb72f112", func := "loop.example/g00961/laws.FnExactNetOk", spec := "fnExactNetOk", apart := false }
def FnExactNetOkSaid : Prop := fnExactNetOkRow.holds Try.pinned (OpenSpec.ofChange fnExactNetOkSpec)

/-- ITS FALSE NEIGHBOUR: 'it returns false'. Refute it at one input. -/
def fnExactNetOkWrong : ChangeSpec := { name := "fnExactNetOk", fn := fun _ => fun
  | [d] => { results := [.lit (.bool false)], args := [d] }
  | _ => none }
def FnExactNetOkWrongFalsely : Prop := fnExactNetOkRow.holds Try.pinned (OpenSpec.ofChange fnExactNetOkWrong)

/-- 'laws.FnExactFlowOk': WHATEVER THE INPUT: true; the input reads as it did. -/
def fnExactFlowOkSpec : ChangeSpec := { name := "fnExactFlowOk", fn := fun _ => fun
  | [d1, d2] => { results := [.lit (.bool true)], args := [d1, d2] }
  | _ => none }
def fnExactFlowOkRow : OpenClaim := { program := "ytpihkmjmolmgcaa", sum := "fced99d1ebccb5d7b45c181f0647856d136d225bfb6dce43afdf37cddb72f112", func := "loop.example/g00961/laws.FnExactFlowOk", spec := "fnExactFlowOk", apart := false }
def FnExactFlowOkSaid : Prop := fnExactFlowOkRow.holds Try.pinned (OpenSpec.ofChange fnExactFlowOkSpec)

/-- ITS FALSE NEIGHBOUR: 'it returns false'. Refute it at one input. -/
def fnExactFlowOkWrong : ChangeSpec := { name := "fnExactFlowOk", fn := fun _ => fun
  | [d1, d2] => { results := [.lit (.bool false)], args := [d1, d2] }
  | _ => none }
def FnExactFlowOkWrongFalsely : Prop := fnExactFlowOkRow.holds Try.pinned (OpenSpec.ofChange fnExactFlowOkWrong)

/-- 'laws.FnExactFlowSize': WHATEVER THE INPUT: true; the input reads as it did. -/
def fnExactFlowSizeSpec : ChangeSpec := { name := "fnExactFlowSize", fn := fun _ => fun
  | [d1, d2] => { results := [.lit (.bool true)], args := [d1, d2] }
  | _ => none }
def fnExactFlowSizeRow : OpenClaim := { program := "ytpihkmjmolmgcaa", sum := "fced99d1ebccb5d7b45c181f0647856d136d225bfb6dce43afdf37cddb72f112", func := "loop.example/g00961/laws.FnExactFlowSize", spec := "fnExactFlowSize", apart := false }
def FnExactFlowSizeSaid : Prop := fnExactFlowSizeRow.holds Try.pinned (OpenSpec.ofChange fnExactFlowSizeSpec)

/-- ITS FALSE NEIGHBOUR: 'it returns false'. Refute it at one input. -/
def fnExactFlowSizeWrong : ChangeSpec := { name := "fnExactFlowSize", fn := fun _ => fun
  | [d1, d2] => { results := [.lit (.bool false)], args := [d1, d2] }
  | _ => none }
def FnExactFlowSizeWrongFalsely : Prop := fnExactFlowSizeRow.holds Try.pinned (OpenSpec.ofChange fnExactFlowSizeWrong)

/-- 'laws.FnExactFlowCost': WHATEVER THE INPUT: true; the input reads as it did. -/
def fnExactFlowCostSpec : ChangeSpec := { name := "fnExactFlowCost", fn := fun _ => fun
  | [d1, d2] => { results := [.lit (.bool true)], args := [d1, d2] }
  | _ => none }
def fnExactFlowCostRow : OpenClaim := { program := "ytpihkmjmolmgcaa", sum := "fced99d1ebccb5d7b45c181f0647856d136d225bfb6dce43afdf37cddb72f112", func := "loop.example/g00961/laws.FnExactFlowCost", spec := "fnExactFlowCost", apart := false }
def FnExactFlowCostSaid : Prop := fnExactFlowCostRow.holds Try.pinned (OpenSpec.ofChange fnExactFlowCostSpec)

/-- ITS FALSE NEIGHBOUR: 'it returns false'. Refute it at one input. -/
def fnExactFlowCostWrong : ChangeSpec := { name := "fnExactFlowCost", fn := fun _ => fun
  | [d1, d2] => { results := [.lit (.bool false)], args := [d1, d2] }
  | _ => none }
def FnExactFlowCostWrongFalsely : Prop := fnExactFlowCostRow.holds Try.pinned (OpenSpec.ofChange fnExactFlowCostWrong)

/-- 'laws.FnExactReachedBy': WHATEVER THE INPUT: true; the input reads as it did. -/
def fnExactReachedBySpec : ChangeSpec := { name := "fnExactReachedBy", fn := fun _ => fun
  | [d1, d2] => { results := [.lit (.bool true)], args := [d1, d2] }
  | _ => none }
def fnExactReachedByRow : OpenClaim := { program := "ytpihkmjmolmgcaa", sum := "fced99d1ebccb5d7b45c181f0647856d136d225bfb6dce43afdf37cddb72f112", func := "loop.example/g00961/laws.FnExactReachedBy", spec := "fnExactReachedBy", apart := false }
def FnExactReachedBySaid : Prop := fnExactReachedByRow.holds Try.pinned (OpenSpec.ofChange fnExactReachedBySpec)

/-- ITS FALSE NEIGHBOUR: 'it returns false'. Refute it at one input. -/
def fnExactReachedByWrong : ChangeSpec := { name := "fnExactReachedBy", fn := fun _ => fun
  | [d1, d2] => { results := [.lit (.bool false)], args := [d1, d2] }
  | _ => none }
def FnExactReachedByWrongFalsely : Prop := fnExactReachedByRow.holds Try.pinned (OpenSpec.ofChange fnExactReachedByWrong)

/-- 'laws.FnExactFlowMore': WHATEVER THE INPUT: true; the input reads as it did. -/
def fnExactFlowMoreSpec : ChangeSpec := { name := "fnExactFlowMore", fn := fun _ => fun
  | [d1, d2, d3] => { results := [.lit (.bool true)], args := [d1, d2, d3] }
  | _ => none }
def fnExactFlowMoreRow : OpenClaim := { program := "ytpihkmjmolmgcaa", sum := "fced99d1ebccb5d7b45c181f0647856d136d225bfb6dce43afdf37cddb72f112", func := "loop.example/g00961/laws.FnExactFlowMore", spec := "fnExactFlowMore", apart := false }
def FnExactFlowMoreSaid : Prop := fnExactFlowMoreRow.holds Try.pinned (OpenSpec.ofChange fnExactFlowMoreSpec)

/-- ITS FALSE NEIGHBOUR: 'it returns false'. Refute it at one input. -/
def fnExactFlowMoreWrong : ChangeSpec := { name := "fnExactFlowMore", fn := fun _ => fun
  | [d1, d2, d3] => { results := [.lit (.bool false)], args := [d1, d2, d3] }
  | _ => none }
def FnExactFlowMoreWrongFalsely : Prop := fnExactFlowMoreRow.holds Try.pinned (OpenSpec.ofChange fnExactFlowMoreWrong)

/- THE SECOND FORM. 'bulk': how many values and letters a reading holds, each counted each time it is reached (what is shared counts as often as it is met; a slice's spare places count too). A statement '..UptoSaid' is the law's where the arguments, and the package variables that the reading takes, are together of bulk at most 1048576: NARROWER than '..Said'. Prove '..Said' where nothing that the law and all that it calls make is longer than what came in: it says more and counts as full. Else prove '..UptoSaid'. A law counts once. -/
mutual
def uptoBulk {H : Type} : DataW H → Nat
  | .lit (.string bytes) => bytes.length + 1
  | .lit _ => 1
  | .nil => 1
  | .ptr d => uptoBulk d + 1
  | .slice elems spare => uptoBulkAll elems + uptoBulkAll spare + 1
  | .agg parts => uptoBulkAll parts + 1
  | .iface _ d => uptoBulk d + 1
  | .map entries => uptoBulkEntries entries + 1
  | .held _ => 1
def uptoBulkAll {H : Type} : List (DataW H) → Nat
  | [] => 0
  | d :: r => uptoBulk d + uptoBulkAll r
def uptoBulkEntries {H : Type} : List (Lit × DataW H) → Nat
  | [] => 0
  | x :: r => uptoBulkEntry x + uptoBulkEntries r
def uptoBulkEntry {H : Type} : Lit × DataW H → Nat
  | (.string bytes, d) => bytes.length + uptoBulk d + 1
  | (_, d) => uptoBulk d + 1
 end
def uptoSmall : (H : Type) → List (DataW H) → Bool := fun _ ds => decide (uptoBulkAll ds ≤ 1048576)
def OpenSpec.upto (s : _root_.Go.ChangeSpec) : _root_.Go.OpenSpec := { _root_.Go.OpenSpec.ofChange s with cond := some uptoSmall }

/-- 'laws.FnFlows', WHERE WHAT IT READS IS OF BULK AT MOST 1048576: true; the input reads as it did. -/
def fnFlowsUptoRow : OpenClaim := { program := "ytpihkmjmolmgcaa", sum := "fced99d1ebccb5d7b45c181f0647856d136d225bfb6dce43afdf37cddb72f112", func := "loop.example/g00961/laws.FnFlows", spec := "fnFlows", apart := false, narrowed := true }
def FnFlowsUptoSaid : Prop := fnFlowsUptoRow.holds Try.pinned (OpenSpec.upto fnFlowsSpec)

/-- 'laws.FnExactNetOk', WHERE WHAT IT READS IS OF BULK AT MOST 1048576: true; the input reads as it did. -/
def fnExactNetOkUptoRow : OpenClaim := { program := "ytpihkmjmolmgcaa", sum := "fced99d1ebccb5d7b45c181f0647856d136d225bfb6dce43afdf37cddb72f112", func := "loop.example/g00961/laws.FnExactNetOk", spec := "fnExactNetOk", apart := false, narrowed := true }
def FnExactNetOkUptoSaid : Prop := fnExactNetOkUptoRow.holds Try.pinned (OpenSpec.upto fnExactNetOkSpec)

/-- 'laws.FnExactFlowOk', WHERE WHAT IT READS IS OF BULK AT MOST 1048576: true; the input reads as it did. -/
def fnExactFlowOkUptoRow : OpenClaim := { program := "ytpihkmjmolmgcaa", sum := "fced99d1ebccb5d7b45c181f0647856d136d225bfb6dce43afdf37cddb72f112", func := "loop.example/g00961/laws.FnExactFlowOk", spec := "fnExactFlowOk", apart := false, narrowed := true }
def FnExactFlowOkUptoSaid : Prop := fnExactFlowOkUptoRow.holds Try.pinned (OpenSpec.upto fnExactFlowOkSpec)

/-- 'laws.FnExactFlowSize', WHERE WHAT IT READS IS OF BULK AT MOST 1048576: true; the input reads as it did. -/
def fnExactFlowSizeUptoRow : OpenClaim := { program := "ytpihkmjmolmgcaa", sum := "fced99d1ebccb5d7b45c181f0647856d136d225bfb6dce43afdf37cddb72f112", func := "loop.example/g00961/laws.FnExactFlowSize", spec := "fnExactFlowSize", apart := false, narrowed := true }
def FnExactFlowSizeUptoSaid : Prop := fnExactFlowSizeUptoRow.holds Try.pinned (OpenSpec.upto fnExactFlowSizeSpec)

/-- 'laws.FnExactFlowCost', WHERE WHAT IT READS IS OF BULK AT MOST 1048576: true; the input reads as it did. -/
def fnExactFlowCostUptoRow : OpenClaim := { program := "ytpihkmjmolmgcaa", sum := "fced99d1ebccb5d7b45c181f0647856d136d225bfb6dce43afdf37cddb72f112", func := "loop.example/g00961/laws.FnExactFlowCost", spec := "fnExactFlowCost", apart := false, narrowed := true }
def FnExactFlowCostUptoSaid : Prop := fnExactFlowCostUptoRow.holds Try.pinned (OpenSpec.upto fnExactFlowCostSpec)

/-- 'laws.FnExactReachedBy', WHERE WHAT IT READS IS OF BULK AT MOST 1048576: true; the input reads as it did. -/
def fnExactReachedByUptoRow : OpenClaim := { program := "ytpihkmjmolmgcaa", sum := "fced99d1ebccb5d7b45c181f0647856d136d225bfb6dce43afdf37cddb72f112", func := "loop.example/g00961/laws.FnExactReachedBy", spec := "fnExactReachedBy", apart := false, narrowed := true }
def FnExactReachedByUptoSaid : Prop := fnExactReachedByUptoRow.holds Try.pinned (OpenSpec.upto fnExactReachedBySpec)

/-- 'laws.FnExactFlowMore', WHERE WHAT IT READS IS OF BULK AT MOST 1048576: true; the input reads as it did. -/
def fnExactFlowMoreUptoRow : OpenClaim := { program := "ytpihkmjmolmgcaa", sum := "fced99d1ebccb5d7b45c181f0647856d136d225bfb6dce43afdf37cddb72f112", func := "loop.example/g00961/laws.FnExactFlowMore", spec := "fnExactFlowMore", apart := false, narrowed := true }
def FnExactFlowMoreUptoSaid : Prop := fnExactFlowMoreUptoRow.holds Try.pinned (OpenSpec.upto fnExactFlowMoreSpec)

end Rows
end Go.Proofs.Ytpihkmjmolmgcaa
