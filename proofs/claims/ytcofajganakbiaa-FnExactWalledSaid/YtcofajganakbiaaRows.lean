/-
  No cell of these rows narrows 'for every input' (looked for: loops, veiled, ifaces, maps, wideKeys, modest, calm, conditions, laid).
  DERIVED. THE GIVEN ROWS OF THIS SEAT. 7 by the template 'for every input the law returns true; each argument reads behind the call as it read before'; 0 by the template 'total and deterministic' (their statements: YtcofajganakbiaaTotals.lean).
  GIVEN WITH THE SEED: the statements are not yours to turn. If you find one false, say at which input.
  Laid BY PROGRAM, IN A SANDBOX (cutbox-rows.mjs): the forced cells as the released guide's own fill.sh prints them over the translation b0cb1c713b315f99… (all of the seat's roots in one cut). By AI agents, Wed Nov 11 2026. No macro, syntax, notation, axiom, sorry.
-/
import Derived.Test.YtcofajganakbiaaChecked
import GoSem.Claim
import GoSem.ClaimJoined
import GoSem.ClaimMapViews
import Derived.JoinedTies
import Derived.KernelRfl
namespace Go.Proofs.Ytcofajganakbiaa
/- THE CELL 'sum', in the pinned program and in every row, IS THE sha256 OF THE DUMP (.gsa) THAT YtcofajganakbiaaProg.lean LOADS. Nothing in Lean hashes anything: it is a label: what it is worth is what the hold of that sum in a sandbox is worth. -/
noncomputable def Try.pinned : Pinned := { name := "ytcofajganakbiaa", sum := "b0cb1c713b315f99227b22dbf4c0eadbd338fe2da907b84930bd42fdcddae2b7", checked := Try.checked }
namespace Rows
def none {H : Type} : Left H := { results := [], args := [] }

/-- 'laws.FnExactGridOk': WHATEVER THE INPUT: true; the input reads as it did. -/
def fnExactGridOkSpec : ChangeSpec := { name := "fnExactGridOk", fn := fun _ => fun
  | [d] => { results := [.lit (.bool true)], args := [d] }
  | _ => none }
def fnExactGridOkRow : OpenClaim := { program := "ytcofajganakbiaa", sum := "b0cb1c713b315f99227b22dbf4c0eadbd338fe2da907b84930bd42fdcddae2b7", func := "loop.example/g00961/laws.FnExactGridOk", spec := "fnExactGridOk", apart := false }
def FnExactGridOkSaid : Prop := fnExactGridOkRow.holds Try.pinned (OpenSpec.ofChange fnExactGridOkSpec)

/-- ITS FALSE NEIGHBOUR: 'it returns false'. Refute it at one input. -/
def fnExactGridOkWrong : ChangeSpec := { name := "fnExactGridOk", fn := fun _ => fun
  | [d] => { results := [.lit (.bool false)], args := [d] }
  | _ => none }
def FnExactGridOkWrongFalsely : Prop := fnExactGridOkRow.holds Try.pinned (OpenSpec.ofChange fnExactGridOkWrong)

/-- 'laws.FnExactFreeAt': WHATEVER THE INPUT: true; the input reads as it did. -/
def fnExactFreeAtSpec : ChangeSpec := { name := "fnExactFreeAt", fn := fun _ => fun
  | [d1, d2] => { results := [.lit (.bool true)], args := [d1, d2] }
  | _ => none }
def fnExactFreeAtRow : OpenClaim := { program := "ytcofajganakbiaa", sum := "b0cb1c713b315f99227b22dbf4c0eadbd338fe2da907b84930bd42fdcddae2b7", func := "loop.example/g00961/laws.FnExactFreeAt", spec := "fnExactFreeAt", apart := false }
def FnExactFreeAtSaid : Prop := fnExactFreeAtRow.holds Try.pinned (OpenSpec.ofChange fnExactFreeAtSpec)

/-- ITS FALSE NEIGHBOUR: 'it returns false'. Refute it at one input. -/
def fnExactFreeAtWrong : ChangeSpec := { name := "fnExactFreeAt", fn := fun _ => fun
  | [d1, d2] => { results := [.lit (.bool false)], args := [d1, d2] }
  | _ => none }
def FnExactFreeAtWrongFalsely : Prop := fnExactFreeAtRow.holds Try.pinned (OpenSpec.ofChange fnExactFreeAtWrong)

/-- 'laws.FnExactZoneOf': WHATEVER THE INPUT: true; the input reads as it did. -/
def fnExactZoneOfSpec : ChangeSpec := { name := "fnExactZoneOf", fn := fun _ => fun
  | [d1, d2] => { results := [.lit (.bool true)], args := [d1, d2] }
  | _ => none }
def fnExactZoneOfRow : OpenClaim := { program := "ytcofajganakbiaa", sum := "b0cb1c713b315f99227b22dbf4c0eadbd338fe2da907b84930bd42fdcddae2b7", func := "loop.example/g00961/laws.FnExactZoneOf", spec := "fnExactZoneOf", apart := false }
def FnExactZoneOfSaid : Prop := fnExactZoneOfRow.holds Try.pinned (OpenSpec.ofChange fnExactZoneOfSpec)

/-- ITS FALSE NEIGHBOUR: 'it returns false'. Refute it at one input. -/
def fnExactZoneOfWrong : ChangeSpec := { name := "fnExactZoneOf", fn := fun _ => fun
  | [d1, d2] => { results := [.lit (.bool false)], args := [d1, d2] }
  | _ => none }
def FnExactZoneOfWrongFalsely : Prop := fnExactZoneOfRow.holds Try.pinned (OpenSpec.ofChange fnExactZoneOfWrong)

/-- 'laws.FnExactParkAt': WHATEVER THE INPUT: true; the input reads as it did. -/
def fnExactParkAtSpec : ChangeSpec := { name := "fnExactParkAt", fn := fun _ => fun
  | [d1, d2] => { results := [.lit (.bool true)], args := [d1, d2] }
  | _ => none }
def fnExactParkAtRow : OpenClaim := { program := "ytcofajganakbiaa", sum := "b0cb1c713b315f99227b22dbf4c0eadbd338fe2da907b84930bd42fdcddae2b7", func := "loop.example/g00961/laws.FnExactParkAt", spec := "fnExactParkAt", apart := false }
def FnExactParkAtSaid : Prop := fnExactParkAtRow.holds Try.pinned (OpenSpec.ofChange fnExactParkAtSpec)

/-- ITS FALSE NEIGHBOUR: 'it returns false'. Refute it at one input. -/
def fnExactParkAtWrong : ChangeSpec := { name := "fnExactParkAt", fn := fun _ => fun
  | [d1, d2] => { results := [.lit (.bool false)], args := [d1, d2] }
  | _ => none }
def FnExactParkAtWrongFalsely : Prop := fnExactParkAtRow.holds Try.pinned (OpenSpec.ofChange fnExactParkAtWrong)

/-- 'laws.FnExactFreeCells': WHATEVER THE INPUT: true; the input reads as it did. -/
def fnExactFreeCellsSpec : ChangeSpec := { name := "fnExactFreeCells", fn := fun _ => fun
  | [d] => { results := [.lit (.bool true)], args := [d] }
  | _ => none }
def fnExactFreeCellsRow : OpenClaim := { program := "ytcofajganakbiaa", sum := "b0cb1c713b315f99227b22dbf4c0eadbd338fe2da907b84930bd42fdcddae2b7", func := "loop.example/g00961/laws.FnExactFreeCells", spec := "fnExactFreeCells", unfollowed := true, recurses := true, apart := false }
def FnExactFreeCellsSaid : Prop := fnExactFreeCellsRow.holds Try.pinned (OpenSpec.ofChange fnExactFreeCellsSpec)

/-- ITS FALSE NEIGHBOUR: 'it returns false'. Refute it at one input. -/
def fnExactFreeCellsWrong : ChangeSpec := { name := "fnExactFreeCells", fn := fun _ => fun
  | [d] => { results := [.lit (.bool false)], args := [d] }
  | _ => none }
def FnExactFreeCellsWrongFalsely : Prop := fnExactFreeCellsRow.holds Try.pinned (OpenSpec.ofChange fnExactFreeCellsWrong)

/-- 'laws.FnExactParksIn': WHATEVER THE INPUT: true; the input reads as it did. -/
def fnExactParksInSpec : ChangeSpec := { name := "fnExactParksIn", fn := fun _ => fun
  | [d1, d2] => { results := [.lit (.bool true)], args := [d1, d2] }
  | _ => none }
def fnExactParksInRow : OpenClaim := { program := "ytcofajganakbiaa", sum := "b0cb1c713b315f99227b22dbf4c0eadbd338fe2da907b84930bd42fdcddae2b7", func := "loop.example/g00961/laws.FnExactParksIn", spec := "fnExactParksIn", unfollowed := true, recurses := true, apart := false }
def FnExactParksInSaid : Prop := fnExactParksInRow.holds Try.pinned (OpenSpec.ofChange fnExactParksInSpec)

/-- ITS FALSE NEIGHBOUR: 'it returns false'. Refute it at one input. -/
def fnExactParksInWrong : ChangeSpec := { name := "fnExactParksIn", fn := fun _ => fun
  | [d1, d2] => { results := [.lit (.bool false)], args := [d1, d2] }
  | _ => none }
def FnExactParksInWrongFalsely : Prop := fnExactParksInRow.holds Try.pinned (OpenSpec.ofChange fnExactParksInWrong)

/-- 'laws.FnExactWalled': WHATEVER THE INPUT: true; the input reads as it did. -/
def fnExactWalledSpec : ChangeSpec := { name := "fnExactWalled", fn := fun _ => fun
  | [d1, d2] => { results := [.lit (.bool true)], args := [d1, d2] }
  | _ => none }
def fnExactWalledRow : OpenClaim := { program := "ytcofajganakbiaa", sum := "b0cb1c713b315f99227b22dbf4c0eadbd338fe2da907b84930bd42fdcddae2b7", func := "loop.example/g00961/laws.FnExactWalled", spec := "fnExactWalled", apart := false }
def FnExactWalledSaid : Prop := fnExactWalledRow.holds Try.pinned (OpenSpec.ofChange fnExactWalledSpec)

/-- ITS FALSE NEIGHBOUR: 'it returns false'. Refute it at one input. -/
def fnExactWalledWrong : ChangeSpec := { name := "fnExactWalled", fn := fun _ => fun
  | [d1, d2] => { results := [.lit (.bool false)], args := [d1, d2] }
  | _ => none }
def FnExactWalledWrongFalsely : Prop := fnExactWalledRow.holds Try.pinned (OpenSpec.ofChange fnExactWalledWrong)

/- THE SECOND FORM. 'bulk': how many values and letters a reading holds, each counted each time it is reached (what is shared counts as often as it is met; a slice's spare places count too). A statement '..UptoSaid' is the law's where the arguments, and the package variables that the reading takes, are together of bulk at most 1048576: NARROWER than '..Said'. Prove '..Said' where nothing that the law and all that it calls make is longer than what came in: it says more and counts as full. Else prove '..UptoSaid'. A law counts once. -/
mutual
def uptoBulk {H : Type} : DataW H → Nat
  | .lit (.string bytes) => bytes.length + 1
  | .lit _ => 1
  | .nil => 1
  | .ptr d => uptoBulk d + 1
  | .slice elems spare => uptoBulkAll elems + uptoBulkAll spare + 1
  | .agg parts => uptoBulkAll parts + 1
  | .iface _ d => uptoBulk d + 1
  | .map entries => uptoBulkEntries entries + 1
  | .held _ => 1
def uptoBulkAll {H : Type} : List (DataW H) → Nat
  | [] => 0
  | d :: r => uptoBulk d + uptoBulkAll r
def uptoBulkEntries {H : Type} : List (Lit × DataW H) → Nat
  | [] => 0
  | x :: r => uptoBulkEntry x + uptoBulkEntries r
def uptoBulkEntry {H : Type} : Lit × DataW H → Nat
  | (.string bytes, d) => bytes.length + uptoBulk d + 1
  | (_, d) => uptoBulk d + 1
 end
def uptoSmall : (H : Type) → List (DataW H) → Bool := fun _ ds => decide (uptoBulkAll ds ≤ 1048576)
def OpenSpec.upto (s : _root_.Go.ChangeSpec) : _root_.Go.OpenSpec := { _root_.Go.OpenSpec.ofChange s with cond := some uptoSmall }

/-- 'laws.FnExactGridOk', WHERE WHAT IT READS IS OF BULK AT MOST 1048576: true; the input reads as it did. -/
def fnExactGridOkUptoRow : OpenClaim := { program := "ytcofajganakbiaa", sum := "b0cb1c713b315f99227b22dbf4c0eadbd338fe2da907b84930bd42fdcddae2b7", func := "loop.example/g00961/laws.FnExactGridOk", spec := "fnExactGridOk", apart := false, narrowed := true }
def FnExactGridOkUptoSaid : Prop := fnExactGridOkUptoRow.holds Try.pinned (OpenSpec.upto fnExactGridOkSpec)

/-- 'laws.FnExactFreeAt', WHERE WHAT IT READS IS OF BULK AT MOST 1048576: true; the input reads as it did. -/
def fnExactFreeAtUptoRow : OpenClaim := { program := "ytcofajganakbiaa", sum := "b0cb1c713b315f99227b22dbf4c0eadbd338fe2da907b84930bd42fdcddae2b7", func := "loop.example/g00961/laws.FnExactFreeAt", spec := "fnExactFreeAt", apart := false, narrowed := true }
def FnExactFreeAtUptoSaid : Prop := fnExactFreeAtUptoRow.holds Try.pinned (OpenSpec.upto fnExactFreeAtSpec)

/-- 'laws.FnExactZoneOf', WHERE WHAT IT READS IS OF BULK AT MOST 1048576: true; the input reads as it did. -/
def fnExactZoneOfUptoRow : OpenClaim := { program := "ytcofajganakbiaa", sum := "b0cb1c713b315f99227b22dbf4c0eadbd338fe2da907b84930bd42fdcddae2b7", func := "loop.example/g00961/laws.FnExactZoneOf", spec := "fnExactZoneOf", apart := false, narrowed := true }
def FnExactZoneOfUptoSaid : Prop := fnExactZoneOfUptoRow.holds Try.pinned (OpenSpec.upto fnExactZoneOfSpec)

/-- 'laws.FnExactParkAt', WHERE WHAT IT READS IS OF BULK AT MOST 1048576: true; the input reads as it did. -/
def fnExactParkAtUptoRow : OpenClaim := { program := "ytcofajganakbiaa", sum := "b0cb1c713b315f99227b22dbf4c0eadbd338fe2da907b84930bd42fdcddae2b7", func := "loop.example/g00961/laws.FnExactParkAt", spec := "fnExactParkAt", apart := false, narrowed := true }
def FnExactParkAtUptoSaid : Prop := fnExactParkAtUptoRow.holds Try.pinned (OpenSpec.upto fnExactParkAtSpec)

/-- 'laws.FnExactFreeCells', WHERE WHAT IT READS IS OF BULK AT MOST 1048576: true; the input reads as it did. -/
def fnExactFreeCellsUptoRow : OpenClaim := { program := "ytcofajganakbiaa", sum := "b0cb1c713b315f99227b22dbf4c0eadbd338fe2da907b84930bd42fdcddae2b7", func := "loop.example/g00961/laws.FnExactFreeCells", spec := "fnExactFreeCells", unfollowed := true, recurses := true, apart := false, narrowed := true }
def FnExactFreeCellsUptoSaid : Prop := fnExactFreeCellsUptoRow.holds Try.pinned (OpenSpec.upto fnExactFreeCellsSpec)

/-- 'laws.FnExactParksIn', WHERE WHAT IT READS IS OF BULK AT MOST 1048576: true; the input reads as it did. -/
def fnExactParksInUptoRow : OpenClaim := { program := "ytcofajganakbiaa", sum := "b0cb1c713b315f99227b22dbf4c0eadbd338fe2da907b84930bd42fdcddae2b7", func := "loop.example/g00961/laws.FnExactParksIn", spec := "fnExactParksIn", unfollowed := true, recurses := true, apart := false, narrowed := true }
def FnExactParksInUptoSaid : Prop := fnExactParksInUptoRow.holds Try.pinned (OpenSpec.upto fnExactParksInSpec)

/-- 'laws.FnExactWalled', WHERE WHAT IT READS IS OF BULK AT MOST 1048576: true; the input reads as it did. -/
def fnExactWalledUptoRow : OpenClaim := { program := "ytcofajganakbiaa", sum := "b0cb1c713b315f99227b22dbf4c0eadbd338fe2da907b84930bd42fdcddae2b7", func := "loop.example/g00961/laws.FnExactWalled", spec := "fnExactWalled", apart := false, narrowed := true }
def FnExactWalledUptoSaid : Prop := fnExactWalledUptoRow.holds Try.pinned (OpenSpec.upto fnExactWalledSpec)

end Rows
end Go.Proofs.Ytcofajganakbiaa
