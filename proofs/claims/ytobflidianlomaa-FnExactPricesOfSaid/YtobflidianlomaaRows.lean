/-
  No cell of these rows narrows 'for every input' (looked for: loops, veiled, ifaces, maps, wideKeys, modest, calm, conditions, laid).
  DERIVED. THE GIVEN ROWS OF THIS SEAT. 4 by the template 'for every input the law returns true; each argument reads behind the call as it read before'; 0 by the template 'total and deterministic' (their statements: YtobflidianlomaaTotals.lean).
  GIVEN WITH THE SEED: the statements are not yours to turn. If you find one false, say at which input.
  Laid BY PROGRAM, IN A SANDBOX (cutbox-rows.mjs): the forced cells as the released guide's own fill.sh prints them over the translation 076c5010a04d74a6… (all of the seat's roots in one cut). By AI agents, Wed Nov 11 2026. No macro, syntax, notation, axiom, sorry.
-/
import Derived.Test.YtobflidianlomaaChecked
import GoSem.Claim
import GoSem.ClaimJoined
import GoSem.ClaimMapViews
import Derived.JoinedTies
import Derived.KernelRfl
namespace Go.Proofs.Ytobflidianlomaa
/- THE CELL 'sum', in the pinned program and in every row, IS THE sha256 OF THE DUMP (.gsa) THAT YtobflidianlomaaProg.lean LOADS. Nothing in Lean hashes anything: it is a label: what it is worth is what the hold of that sum in a sandbox is worth. -/
noncomputable def Try.pinned : Pinned := { name := "ytobflidianlomaa", sum := "076c5010a04d74a6f72e40c909e982396118f08216ec121053d4ad8cfdb5f84d", checked := Try.checked }
namespace Rows
def none {H : Type} : Left H := { results := [], args := [] }

/-- 'laws.FnPriced': WHATEVER THE INPUT: true; the input reads as it did. -/
def fnPricedSpec : ChangeSpec := { name := "fnPriced", fn := fun _ => fun
  | [d] => { results := [.lit (.bool true)], args := [d] }
  | _ => none }
def fnPricedRow : OpenClaim := { program := "ytobflidianlomaa", sum := "076c5010a04d74a6f72e40c909e982396118f08216ec121053d4ad8cfdb5f84d", func := "loop.example/g00961/laws.FnPriced", spec := "fnPriced", apart := false }
def FnPricedSaid : Prop := fnPricedRow.holds Try.pinned (OpenSpec.ofChange fnPricedSpec)

/-- ITS FALSE NEIGHBOUR: 'it returns false'. Refute it at one input. -/
def fnPricedWrong : ChangeSpec := { name := "fnPriced", fn := fun _ => fun
  | [d] => { results := [.lit (.bool false)], args := [d] }
  | _ => none }
def FnPricedWrongFalsely : Prop := fnPricedRow.holds Try.pinned (OpenSpec.ofChange fnPricedWrong)

/-- 'laws.FnExactPricesOf': WHATEVER THE INPUT: true; the input reads as it did. -/
def fnExactPricesOfSpec : ChangeSpec := { name := "fnExactPricesOf", fn := fun _ => fun
  | [d1, d2] => { results := [.lit (.bool true)], args := [d1, d2] }
  | _ => none }
def fnExactPricesOfRow : OpenClaim := { program := "ytobflidianlomaa", sum := "076c5010a04d74a6f72e40c909e982396118f08216ec121053d4ad8cfdb5f84d", func := "loop.example/g00961/laws.FnExactPricesOf", spec := "fnExactPricesOf", apart := false }
def FnExactPricesOfSaid : Prop := fnExactPricesOfRow.holds Try.pinned (OpenSpec.ofChange fnExactPricesOfSpec)

/-- ITS FALSE NEIGHBOUR: 'it returns false'. Refute it at one input. -/
def fnExactPricesOfWrong : ChangeSpec := { name := "fnExactPricesOf", fn := fun _ => fun
  | [d1, d2] => { results := [.lit (.bool false)], args := [d1, d2] }
  | _ => none }
def FnExactPricesOfWrongFalsely : Prop := fnExactPricesOfRow.holds Try.pinned (OpenSpec.ofChange fnExactPricesOfWrong)

/-- 'laws.FnExactPricesOk': WHATEVER THE INPUT: true; the input reads as it did. -/
def fnExactPricesOkSpec : ChangeSpec := { name := "fnExactPricesOk", fn := fun _ => fun
  | [d1, d2, d3] => { results := [.lit (.bool true)], args := [d1, d2, d3] }
  | _ => none }
def fnExactPricesOkRow : OpenClaim := { program := "ytobflidianlomaa", sum := "076c5010a04d74a6f72e40c909e982396118f08216ec121053d4ad8cfdb5f84d", func := "loop.example/g00961/laws.FnExactPricesOk", spec := "fnExactPricesOk", apart := false }
def FnExactPricesOkSaid : Prop := fnExactPricesOkRow.holds Try.pinned (OpenSpec.ofChange fnExactPricesOkSpec)

/-- ITS FALSE NEIGHBOUR: 'it returns false'. Refute it at one input. -/
def fnExactPricesOkWrong : ChangeSpec := { name := "fnExactPricesOk", fn := fun _ => fun
  | [d1, d2, d3] => { results := [.lit (.bool false)], args := [d1, d2, d3] }
  | _ => none }
def FnExactPricesOkWrongFalsely : Prop := fnExactPricesOkRow.holds Try.pinned (OpenSpec.ofChange fnExactPricesOkWrong)

/-- 'laws.FnExactNoneCheaper': WHATEVER THE INPUT: true; the input reads as it did. -/
def fnExactNoneCheaperSpec : ChangeSpec := { name := "fnExactNoneCheaper", fn := fun _ => fun
  | [d1, d2] => { results := [.lit (.bool true)], args := [d1, d2] }
  | _ => none }
def fnExactNoneCheaperRow : OpenClaim := { program := "ytobflidianlomaa", sum := "076c5010a04d74a6f72e40c909e982396118f08216ec121053d4ad8cfdb5f84d", func := "loop.example/g00961/laws.FnExactNoneCheaper", spec := "fnExactNoneCheaper", apart := false }
def FnExactNoneCheaperSaid : Prop := fnExactNoneCheaperRow.holds Try.pinned (OpenSpec.ofChange fnExactNoneCheaperSpec)

/-- ITS FALSE NEIGHBOUR: 'it returns false'. Refute it at one input. -/
def fnExactNoneCheaperWrong : ChangeSpec := { name := "fnExactNoneCheaper", fn := fun _ => fun
  | [d1, d2] => { results := [.lit (.bool false)], args := [d1, d2] }
  | _ => none }
def FnExactNoneCheaperWrongFalsely : Prop := fnExactNoneCheaperRow.holds Try.pinned (OpenSpec.ofChange fnExactNoneCheaperWrong)

/- THE SECOND FORM. 'bulk': how many values and letters a reading holds, each counted each time it is reached (what is shared counts as often as it is met; a slice's spare places count too). A statement '..UptoSaid' is the law's where the arguments, and the package variables that the reading takes, are together of bulk at most 1048576: NARROWER than '..Said'. Prove '..Said' where nothing that the law and all that it calls make is longer than what came in: it says more and counts as full. Else prove '..UptoSaid'. A law counts once. -/
mutual
def uptoBulk {H : Type} : DataW H → Nat
  | .lit (.string bytes) => bytes.length + 1
  | .lit _ => 1
  | .nil => 1
  | .ptr d => uptoBulk d + 1
  | .slice elems spare => uptoBulkAll elems + uptoBulkAll spare + 1
  | .agg parts => uptoBulkAll parts + 1
  | .iface _ d => uptoBulk d + 1
  | .map entries => uptoBulkEntries entries + 1
  | .held _ => 1
def uptoBulkAll {H : Type} : List (DataW H) → Nat
  | [] => 0
  | d :: r => uptoBulk d + uptoBulkAll r
def uptoBulkEntries {H : Type} : List (Lit × DataW H) → Nat
  | [] => 0
  | x :: r => uptoBulkEntry x + uptoBulkEntries r
def uptoBulkEntry {H : Type} : Lit × DataW H → Nat
  | (.string bytes, d) => bytes.length + uptoBulk d + 1
  | (_, d) => uptoBulk d + 1
 end
def uptoSmall : (H : Type) → List (DataW H) → Bool := fun _ ds => decide (uptoBulkAll ds ≤ 1048576)
def OpenSpec.upto (s : _root_.Go.ChangeSpec) : _root_.Go.OpenSpec := { _root_.Go.OpenSpec.ofChange s with cond := some uptoSmall }

/-- 'laws.FnPriced', WHERE WHAT IT READS IS OF BULK AT MOST 1048576: true; the input reads as it did. -/
def fnPricedUptoRow : OpenClaim := { program := "ytobflidianlomaa", sum := "076c5010a04d74a6f72e40c909e982396118f08216ec121053d4ad8cfdb5f84d", func := "loop.example/g00961/laws.FnPriced", spec := "fnPriced", apart := false, narrowed := true }
def FnPricedUptoSaid : Prop := fnPricedUptoRow.holds Try.pinned (OpenSpec.upto fnPricedSpec)

/-- 'laws.FnExactPricesOf', WHERE WHAT IT READS IS OF BULK AT MOST 1048576: true; the input reads as it did. -/
def fnExactPricesOfUptoRow : OpenClaim := { program := "ytobflidianlomaa", sum := "076c5010a04d74a6f72e40c909e982396118f08216ec121053d4ad8cfdb5f84d", func := "loop.example/g00961/laws.FnExactPricesOf", spec := "fnExactPricesOf", apart := false, narrowed := true }
def FnExactPricesOfUptoSaid : Prop := fnExactPricesOfUptoRow.holds Try.pinned (OpenSpec.upto fnExactPricesOfSpec)

/-- 'laws.FnExactPricesOk', WHERE WHAT IT READS IS OF BULK AT MOST 1048576: true; the input reads as it did. -/
def fnExactPricesOkUptoRow : OpenClaim := { program := "ytobflidianlomaa", sum := "076c5010a04d74a6f72e40c909e982396118f08216ec121053d4ad8cfdb5f84d", func := "loop.example/g00961/laws.FnExactPricesOk", spec := "fnExactPricesOk", apart := false, narrowed := true }
def FnExactPricesOkUptoSaid : Prop := fnExactPricesOkUptoRow.holds Try.pinned (OpenSpec.upto fnExactPricesOkSpec)

/-- 'laws.FnExactNoneCheaper', WHERE WHAT IT READS IS OF BULK AT MOST 1048576: true; the input reads as it did. -/
def fnExactNoneCheaperUptoRow : OpenClaim := { program := "ytobflidianlomaa", sum := "076c5010a04d74a6f72e40c909e982396118f08216ec121053d4ad8cfdb5f84d", func := "loop.example/g00961/laws.FnExactNoneCheaper", spec := "fnExactNoneCheaper", apart := false, narrowed := true }
def FnExactNoneCheaperUptoSaid : Prop := fnExactNoneCheaperUptoRow.holds Try.pinned (OpenSpec.upto fnExactNoneCheaperSpec)

end Rows
end Go.Proofs.Ytobflidianlomaa
