/-
  DERIVED. GIVEN WITH THE SEED: THE CARDS: each row of YtncdoagjpclecaaDoorRows.lean that lists a variable, with what it lists TIED to the program's text (the seventh form; the later family's looks); each row that meets fmt, with fmt's text TOLD by the authors' own Lean function (tested against real Go, not proved from fmt's source: count such statements apart). THE CARD IS WHAT COUNTS. Prove the row's statement (the work); the ties are given (YtncdoagjpclecaaDoorTie.lean); close each card by the builder's one call (the guide's Derived/Test/ToyasCard.lean, 'card_holds'). Laid BY PROGRAM, IN A SANDBOX (cutbox-door.mjs). By AI agents, Wed Nov 11 2026. No macro, syntax, notation, axiom, sorry.
-/
import Derived.Test.YtncdoagjpclecaaDoorRows
import GoSem.ClaimSeven
namespace Go.Proofs.YtncdoagjpclecaaDoor
namespace Rows

/-- THE TIED CARD OF 'laws.FnExactAround'. -/
def fnExactAroundCard : Claim7 := { stood := { row := fnExactAroundRow, standIns := [], harness := (true, "acbceb8b9e597e14e104a867b7144c85e714da30283d8cacac9df0b7bf1c34ec"), looks := false }, kinds := [], alts := [], laidByText := true, laidKinds := [.data], laidTests := true, laidLooks := .later }
def FnExactAroundCardSaid : Prop := Claim7.holds Tryd.pinned (.plain (OpenSpec.ofChange fnExactAroundSpec)) fnExactAroundCard

/-- THE TIED CARD OF 'laws.FnExactBeside'. -/
def fnExactBesideCard : Claim7 := { stood := { row := fnExactBesideRow, standIns := [], harness := (true, "acbceb8b9e597e14e104a867b7144c85e714da30283d8cacac9df0b7bf1c34ec"), looks := false }, kinds := [], alts := [], laidByText := true, laidKinds := [.data], laidTests := true, laidLooks := .later }
def FnExactBesideCardSaid : Prop := Claim7.holds Tryd.pinned (.plain (OpenSpec.ofChange fnExactBesideSpec)) fnExactBesideCard

/-- THE TIED CARD OF 'laws.FnExactPairsOf'. -/
def fnExactPairsOfCard : Claim7 := { stood := { row := fnExactPairsOfRow, standIns := [], harness := (true, "acbceb8b9e597e14e104a867b7144c85e714da30283d8cacac9df0b7bf1c34ec"), looks := false }, kinds := [], alts := [], laidByText := true, laidKinds := [.data], laidTests := true, laidLooks := .later }
def FnExactPairsOfCardSaid : Prop := Claim7.holds Tryd.pinned (.plain (OpenSpec.ofChange fnExactPairsOfSpec)) fnExactPairsOfCard

/-- THE SECOND FORM's CARD OF 'laws.FnExactAround'. -/
def fnExactAroundUptoCard : Claim7 := { stood := { row := fnExactAroundUptoRow, standIns := [], harness := (true, "acbceb8b9e597e14e104a867b7144c85e714da30283d8cacac9df0b7bf1c34ec"), looks := false }, kinds := [], alts := [], laidByText := true, laidKinds := [.data], laidTests := true, laidLooks := .later }
def FnExactAroundUptoCardSaid : Prop := Claim7.holds Tryd.pinned (.plain (OpenSpec.upto fnExactAroundSpec)) fnExactAroundUptoCard

/-- THE SECOND FORM's CARD OF 'laws.FnExactBeside'. -/
def fnExactBesideUptoCard : Claim7 := { stood := { row := fnExactBesideUptoRow, standIns := [], harness := (true, "acbceb8b9e597e14e104a867b7144c85e714da30283d8cacac9df0b7bf1c34ec"), looks := false }, kinds := [], alts := [], laidByText := true, laidKinds := [.data], laidTests := true, laidLooks := .later }
def FnExactBesideUptoCardSaid : Prop := Claim7.holds Tryd.pinned (.plain (OpenSpec.upto fnExactBesideSpec)) fnExactBesideUptoCard

/-- THE SECOND FORM's CARD OF 'laws.FnExactPairsOf'. -/
def fnExactPairsOfUptoCard : Claim7 := { stood := { row := fnExactPairsOfUptoRow, standIns := [], harness := (true, "acbceb8b9e597e14e104a867b7144c85e714da30283d8cacac9df0b7bf1c34ec"), looks := false }, kinds := [], alts := [], laidByText := true, laidKinds := [.data], laidTests := true, laidLooks := .later }
def FnExactPairsOfUptoCardSaid : Prop := Claim7.holds Tryd.pinned (.plain (OpenSpec.upto fnExactPairsOfSpec)) fnExactPairsOfUptoCard
end Rows
end Go.Proofs.YtncdoagjpclecaaDoor
