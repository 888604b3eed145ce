/-
  DERIVED. GIVEN WITH THE SEED: THE CARDS: each row of YtlkhecdlmbhiaaaDoorRows.lean that lists a variable, with what it lists TIED to the program's text (the seventh form; the later family's looks); each row that meets fmt, with fmt's text TOLD by the authors' own Lean function (tested against real Go, not proved from fmt's source: count such statements apart). THE CARD IS WHAT COUNTS. Prove the row's statement (the work); the ties are given (YtlkhecdlmbhiaaaDoorTie.lean); close each card by the builder's one call (the guide's Derived/Test/ToyasCard.lean, 'card_holds'). Laid BY PROGRAM, IN A SANDBOX (cutbox-door.mjs). By AI agents, Wed Nov 11 2026. No macro, syntax, notation, axiom, sorry.
-/
import Derived.Test.YtlkhecdlmbhiaaaDoorRows
import GoSem.ClaimSeven
namespace Go.Proofs.YtlkhecdlmbhiaaaDoor
namespace Rows

/-- THE TIED CARD OF 'laws.FnTimeNets'. -/
def fnTimeNetsCard : Claim7 := { stood := { row := fnTimeNetsRow, standIns := [], harness := (true, "a26eae79afc65c3fe4886a5d695ae50bb712cb480ebc009bf38568adaa57ee2a"), looks := false }, kinds := [], alts := [], laidByText := true, laidKinds := [.data], laidTests := true, laidLooks := .later }
def FnTimeNetsCardSaid : Prop := Claim7.holds Tryd.pinned (.plain (OpenSpec.ofChange fnTimeNetsSpec)) fnTimeNetsCard

/-- THE TIED CARD OF 'laws.FnExactTimeNet'. -/
def fnExactTimeNetCard : Claim7 := { stood := { row := fnExactTimeNetRow, standIns := [], harness := (true, "a26eae79afc65c3fe4886a5d695ae50bb712cb480ebc009bf38568adaa57ee2a"), looks := false }, kinds := [], alts := [], laidByText := true, laidKinds := [.data], laidTests := true, laidLooks := .later }
def FnExactTimeNetCardSaid : Prop := Claim7.holds Tryd.pinned (.plain (OpenSpec.ofChange fnExactTimeNetSpec)) fnExactTimeNetCard

/-- THE TIED CARD OF 'laws.FnExactCanAt'. -/
def fnExactCanAtCard : Claim7 := { stood := { row := fnExactCanAtRow, standIns := [], harness := (true, "a26eae79afc65c3fe4886a5d695ae50bb712cb480ebc009bf38568adaa57ee2a"), looks := false }, kinds := [], alts := [], laidByText := true, laidKinds := [.data], laidTests := true, laidLooks := .later }
def FnExactCanAtCardSaid : Prop := Claim7.holds Tryd.pinned (.plain (OpenSpec.ofChange fnExactCanAtSpec)) fnExactCanAtCard

/-- THE SECOND FORM's CARD OF 'laws.FnTimeNets'. -/
def fnTimeNetsUptoCard : Claim7 := { stood := { row := fnTimeNetsUptoRow, standIns := [], harness := (true, "a26eae79afc65c3fe4886a5d695ae50bb712cb480ebc009bf38568adaa57ee2a"), looks := false }, kinds := [], alts := [], laidByText := true, laidKinds := [.data], laidTests := true, laidLooks := .later }
def FnTimeNetsUptoCardSaid : Prop := Claim7.holds Tryd.pinned (.plain (OpenSpec.upto fnTimeNetsSpec)) fnTimeNetsUptoCard

/-- THE SECOND FORM's CARD OF 'laws.FnExactTimeNet'. -/
def fnExactTimeNetUptoCard : Claim7 := { stood := { row := fnExactTimeNetUptoRow, standIns := [], harness := (true, "a26eae79afc65c3fe4886a5d695ae50bb712cb480ebc009bf38568adaa57ee2a"), looks := false }, kinds := [], alts := [], laidByText := true, laidKinds := [.data], laidTests := true, laidLooks := .later }
def FnExactTimeNetUptoCardSaid : Prop := Claim7.holds Tryd.pinned (.plain (OpenSpec.upto fnExactTimeNetSpec)) fnExactTimeNetUptoCard

/-- THE SECOND FORM's CARD OF 'laws.FnExactCanAt'. -/
def fnExactCanAtUptoCard : Claim7 := { stood := { row := fnExactCanAtUptoRow, standIns := [], harness := (true, "a26eae79afc65c3fe4886a5d695ae50bb712cb480ebc009bf38568adaa57ee2a"), looks := false }, kinds := [], alts := [], laidByText := true, laidKinds := [.data], laidTests := true, laidLooks := .later }
def FnExactCanAtUptoCardSaid : Prop := Claim7.holds Tryd.pinned (.plain (OpenSpec.upto fnExactCanAtSpec)) fnExactCanAtUptoCard
end Rows
end Go.Proofs.YtlkhecdlmbhiaaaDoor
