/-
  DERIVED. GIVEN WITH THE SEED: THE CARDS: each row of YtnbbhdbcapfbkaaDoorRows.lean that lists a variable, with what it lists TIED to the program's text (the seventh form; the later family's looks); each row that meets fmt, with fmt's text TOLD by the authors' own Lean function (tested against real Go, not proved from fmt's source: count such statements apart). THE CARD IS WHAT COUNTS. Prove the row's statement (the work); the ties are given (YtnbbhdbcapfbkaaDoorTie.lean); close each card by the builder's one call (the guide's Derived/Test/ToyasCard.lean, 'card_holds'). Laid BY PROGRAM, IN A SANDBOX (cutbox-door.mjs). By AI agents, Wed Nov 11 2026. No macro, syntax, notation, axiom, sorry.
-/
import Derived.Test.YtnbbhdbcapfbkaaDoorRows
import GoSem.ClaimSeven
namespace Go.Proofs.YtnbbhdbcapfbkaaDoor
namespace Rows

/-- THE TIED CARD OF 'laws.FnExactFlowFor'. -/
def fnExactFlowForCard : Claim7 := { stood := { row := fnExactFlowForRow, standIns := [], harness := (true, "5c01f2e5bc3d59f28bc581ac1cd9ccd4da9943eb8a4ab6b8dd2daaf18a8391e7"), looks := false }, kinds := [], alts := [], laidByText := true, laidKinds := [.data], laidTests := true, laidLooks := .later }
def FnExactFlowForCardSaid : Prop := Claim7.holds Tryd.pinned (.plain (OpenSpec.ofChange fnExactFlowForSpec)) fnExactFlowForCard

/-- THE SECOND FORM's CARD OF 'laws.FnExactFlowFor'. -/
def fnExactFlowForUptoCard : Claim7 := { stood := { row := fnExactFlowForUptoRow, standIns := [], harness := (true, "5c01f2e5bc3d59f28bc581ac1cd9ccd4da9943eb8a4ab6b8dd2daaf18a8391e7"), looks := false }, kinds := [], alts := [], laidByText := true, laidKinds := [.data], laidTests := true, laidLooks := .later }
def FnExactFlowForUptoCardSaid : Prop := Claim7.holds Tryd.pinned (.plain (OpenSpec.upto fnExactFlowForSpec)) fnExactFlowForUptoCard
end Rows
end Go.Proofs.YtnbbhdbcapfbkaaDoor
