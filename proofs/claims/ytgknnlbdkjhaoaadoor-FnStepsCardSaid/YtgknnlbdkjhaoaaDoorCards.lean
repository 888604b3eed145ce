/-
  DERIVED. GIVEN WITH THE SEED: THE CARDS: each row of YtgknnlbdkjhaoaaDoorRows.lean that lists a variable, with what it lists TIED to the program's text (the seventh form; the later family's looks); each row that meets fmt, with fmt's text TOLD by the authors' own Lean function (tested against real Go, not proved from fmt's source: count such statements apart). THE CARD IS WHAT COUNTS. Prove the row's statement (the work); the ties are given (YtgknnlbdkjhaoaaDoorTie.lean); close each card by the builder's one call (the guide's Derived/Test/ToyasCard.lean, 'card_holds'). Laid BY PROGRAM, IN A SANDBOX (cutbox-door.mjs). By AI agents, Wed Nov 11 2026. No macro, syntax, notation, axiom, sorry.
-/
import Derived.Test.YtgknnlbdkjhaoaaDoorRows
import GoSem.ClaimSeven
namespace Go.Proofs.YtgknnlbdkjhaoaaDoor
namespace Rows

/-- THE TIED CARD OF 'laws.FnSteps'. -/
def fnStepsCard : Claim7 := { stood := { row := fnStepsRow, standIns := [], harness := (true, "71435768ce60d1e404f020885ed8c583d94663b8df409628eeb92f31c6bf7ebc"), looks := false }, kinds := [], alts := [], laidByText := true, laidKinds := [.data], laidTests := true, laidLooks := .later }
def FnStepsCardSaid : Prop := Claim7.holds Tryd.pinned (.plain (OpenSpec.ofChange fnStepsSpec)) fnStepsCard

/-- THE TIED CARD OF 'laws.FnExactStepsFrom'. -/
def fnExactStepsFromCard : Claim7 := { stood := { row := fnExactStepsFromRow, standIns := [], harness := (true, "71435768ce60d1e404f020885ed8c583d94663b8df409628eeb92f31c6bf7ebc"), looks := false }, kinds := [], alts := [], laidByText := true, laidKinds := [.data], laidTests := true, laidLooks := .later }
def FnExactStepsFromCardSaid : Prop := Claim7.holds Tryd.pinned (.plain (OpenSpec.ofChange fnExactStepsFromSpec)) fnExactStepsFromCard

/-- THE TIED CARD OF 'laws.FnExactStepsTo'. -/
def fnExactStepsToCard : Claim7 := { stood := { row := fnExactStepsToRow, standIns := [], harness := (true, "71435768ce60d1e404f020885ed8c583d94663b8df409628eeb92f31c6bf7ebc"), looks := false }, kinds := [], alts := [], laidByText := true, laidKinds := [.data], laidTests := true, laidLooks := .later }
def FnExactStepsToCardSaid : Prop := Claim7.holds Tryd.pinned (.plain (OpenSpec.ofChange fnExactStepsToSpec)) fnExactStepsToCard

/-- THE TIED CARD OF 'laws.FnExactWayTo'. -/
def fnExactWayToCard : Claim7 := { stood := { row := fnExactWayToRow, standIns := [], harness := (true, "71435768ce60d1e404f020885ed8c583d94663b8df409628eeb92f31c6bf7ebc"), looks := false }, kinds := [], alts := [], laidByText := true, laidKinds := [.data], laidTests := true, laidLooks := .later }
def FnExactWayToCardSaid : Prop := Claim7.holds Tryd.pinned (.plain (OpenSpec.ofChange fnExactWayToSpec)) fnExactWayToCard

/-- THE SECOND FORM's CARD OF 'laws.FnSteps'. -/
def fnStepsUptoCard : Claim7 := { stood := { row := fnStepsUptoRow, standIns := [], harness := (true, "71435768ce60d1e404f020885ed8c583d94663b8df409628eeb92f31c6bf7ebc"), looks := false }, kinds := [], alts := [], laidByText := true, laidKinds := [.data], laidTests := true, laidLooks := .later }
def FnStepsUptoCardSaid : Prop := Claim7.holds Tryd.pinned (.plain (OpenSpec.upto fnStepsSpec)) fnStepsUptoCard

/-- THE SECOND FORM's CARD OF 'laws.FnExactStepsFrom'. -/
def fnExactStepsFromUptoCard : Claim7 := { stood := { row := fnExactStepsFromUptoRow, standIns := [], harness := (true, "71435768ce60d1e404f020885ed8c583d94663b8df409628eeb92f31c6bf7ebc"), looks := false }, kinds := [], alts := [], laidByText := true, laidKinds := [.data], laidTests := true, laidLooks := .later }
def FnExactStepsFromUptoCardSaid : Prop := Claim7.holds Tryd.pinned (.plain (OpenSpec.upto fnExactStepsFromSpec)) fnExactStepsFromUptoCard

/-- THE SECOND FORM's CARD OF 'laws.FnExactStepsTo'. -/
def fnExactStepsToUptoCard : Claim7 := { stood := { row := fnExactStepsToUptoRow, standIns := [], harness := (true, "71435768ce60d1e404f020885ed8c583d94663b8df409628eeb92f31c6bf7ebc"), looks := false }, kinds := [], alts := [], laidByText := true, laidKinds := [.data], laidTests := true, laidLooks := .later }
def FnExactStepsToUptoCardSaid : Prop := Claim7.holds Tryd.pinned (.plain (OpenSpec.upto fnExactStepsToSpec)) fnExactStepsToUptoCard

/-- THE SECOND FORM's CARD OF 'laws.FnExactWayTo'. -/
def fnExactWayToUptoCard : Claim7 := { stood := { row := fnExactWayToUptoRow, standIns := [], harness := (true, "71435768ce60d1e404f020885ed8c583d94663b8df409628eeb92f31c6bf7ebc"), looks := false }, kinds := [], alts := [], laidByText := true, laidKinds := [.data], laidTests := true, laidLooks := .later }
def FnExactWayToUptoCardSaid : Prop := Claim7.holds Tryd.pinned (.plain (OpenSpec.upto fnExactWayToSpec)) fnExactWayToUptoCard
end Rows
end Go.Proofs.YtgknnlbdkjhaoaaDoor
