/-
  DERIVED. GIVEN WITH THE SEED: THE CARDS: each row of YtieipekhckambaaDoorRows.lean that lists a variable, with what it lists TIED to the program's text (the seventh form; the later family's looks); each row that meets fmt, with fmt's text TOLD by the authors' own Lean function (tested against real Go, not proved from fmt's source: count such statements apart). THE CARD IS WHAT COUNTS. Prove the row's statement (the work); the ties are given (YtieipekhckambaaDoorTie.lean); close each card by the builder's one call (the guide's Derived/Test/ToyasCard.lean, 'card_holds'). Laid BY PROGRAM, IN A SANDBOX (cutbox-door.mjs). By AI agents, Wed Nov 11 2026. No macro, syntax, notation, axiom, sorry.
-/
import Derived.Test.YtieipekhckambaaDoorRows
import GoSem.ClaimSeven
namespace Go.Proofs.YtieipekhckambaaDoor
namespace Rows

/-- THE TIED CARD OF 'laws.FnHomes'. -/
def fnHomesCard : Claim7 := { stood := { row := fnHomesRow, standIns := [], harness := (true, "7400765616bd5b2a06bbce5c84d0742bbc7ec8963cbfa3d4efd3296dfbd9d0c7"), looks := false }, kinds := [], alts := [], laidByText := true, laidKinds := [.data], laidTests := true, laidLooks := .later }
def FnHomesCardSaid : Prop := Claim7.holds Tryd.pinned (.plain (OpenSpec.ofChange fnHomesSpec)) fnHomesCard

/-- THE TIED CARD OF 'laws.FnExactHomeOf'. -/
def fnExactHomeOfCard : Claim7 := { stood := { row := fnExactHomeOfRow, standIns := [], harness := (true, "7400765616bd5b2a06bbce5c84d0742bbc7ec8963cbfa3d4efd3296dfbd9d0c7"), looks := false }, kinds := [], alts := [], laidByText := true, laidKinds := [.data], laidTests := true, laidLooks := .later }
def FnExactHomeOfCardSaid : Prop := Claim7.holds Tryd.pinned (.plain (OpenSpec.ofChange fnExactHomeOfSpec)) fnExactHomeOfCard

/-- THE TIED CARD OF 'laws.FnExactHomes'. -/
def fnExactHomesCard : Claim7 := { stood := { row := fnExactHomesRow, standIns := [], harness := (true, "7400765616bd5b2a06bbce5c84d0742bbc7ec8963cbfa3d4efd3296dfbd9d0c7"), looks := false }, kinds := [], alts := [], laidByText := true, laidKinds := [.data], laidTests := true, laidLooks := .later }
def FnExactHomesCardSaid : Prop := Claim7.holds Tryd.pinned (.plain (OpenSpec.ofChange fnExactHomesSpec)) fnExactHomesCard

/-- THE TIED CARD OF 'laws.FnExactCountIn'. -/
def fnExactCountInCard : Claim7 := { stood := { row := fnExactCountInRow, standIns := [], harness := (true, "7400765616bd5b2a06bbce5c84d0742bbc7ec8963cbfa3d4efd3296dfbd9d0c7"), looks := false }, kinds := [], alts := [], laidByText := true, laidKinds := [.data], laidTests := true, laidLooks := .later }
def FnExactCountInCardSaid : Prop := Claim7.holds Tryd.pinned (.plain (OpenSpec.ofChange fnExactCountInSpec)) fnExactCountInCard

/-- THE TIED CARD OF 'laws.FnExactEnough'. -/
def fnExactEnoughCard : Claim7 := { stood := { row := fnExactEnoughRow, standIns := [], harness := (true, "7400765616bd5b2a06bbce5c84d0742bbc7ec8963cbfa3d4efd3296dfbd9d0c7"), looks := false }, kinds := [], alts := [], laidByText := true, laidKinds := [.data], laidTests := true, laidLooks := .later }
def FnExactEnoughCardSaid : Prop := Claim7.holds Tryd.pinned (.plain (OpenSpec.ofChange fnExactEnoughSpec)) fnExactEnoughCard

/-- THE SECOND FORM's CARD OF 'laws.FnHomes'. -/
def fnHomesUptoCard : Claim7 := { stood := { row := fnHomesUptoRow, standIns := [], harness := (true, "7400765616bd5b2a06bbce5c84d0742bbc7ec8963cbfa3d4efd3296dfbd9d0c7"), looks := false }, kinds := [], alts := [], laidByText := true, laidKinds := [.data], laidTests := true, laidLooks := .later }
def FnHomesUptoCardSaid : Prop := Claim7.holds Tryd.pinned (.plain (OpenSpec.upto fnHomesSpec)) fnHomesUptoCard

/-- THE SECOND FORM's CARD OF 'laws.FnExactHomeOf'. -/
def fnExactHomeOfUptoCard : Claim7 := { stood := { row := fnExactHomeOfUptoRow, standIns := [], harness := (true, "7400765616bd5b2a06bbce5c84d0742bbc7ec8963cbfa3d4efd3296dfbd9d0c7"), looks := false }, kinds := [], alts := [], laidByText := true, laidKinds := [.data], laidTests := true, laidLooks := .later }
def FnExactHomeOfUptoCardSaid : Prop := Claim7.holds Tryd.pinned (.plain (OpenSpec.upto fnExactHomeOfSpec)) fnExactHomeOfUptoCard

/-- THE SECOND FORM's CARD OF 'laws.FnExactHomes'. -/
def fnExactHomesUptoCard : Claim7 := { stood := { row := fnExactHomesUptoRow, standIns := [], harness := (true, "7400765616bd5b2a06bbce5c84d0742bbc7ec8963cbfa3d4efd3296dfbd9d0c7"), looks := false }, kinds := [], alts := [], laidByText := true, laidKinds := [.data], laidTests := true, laidLooks := .later }
def FnExactHomesUptoCardSaid : Prop := Claim7.holds Tryd.pinned (.plain (OpenSpec.upto fnExactHomesSpec)) fnExactHomesUptoCard

/-- THE SECOND FORM's CARD OF 'laws.FnExactCountIn'. -/
def fnExactCountInUptoCard : Claim7 := { stood := { row := fnExactCountInUptoRow, standIns := [], harness := (true, "7400765616bd5b2a06bbce5c84d0742bbc7ec8963cbfa3d4efd3296dfbd9d0c7"), looks := false }, kinds := [], alts := [], laidByText := true, laidKinds := [.data], laidTests := true, laidLooks := .later }
def FnExactCountInUptoCardSaid : Prop := Claim7.holds Tryd.pinned (.plain (OpenSpec.upto fnExactCountInSpec)) fnExactCountInUptoCard

/-- THE SECOND FORM's CARD OF 'laws.FnExactEnough'. -/
def fnExactEnoughUptoCard : Claim7 := { stood := { row := fnExactEnoughUptoRow, standIns := [], harness := (true, "7400765616bd5b2a06bbce5c84d0742bbc7ec8963cbfa3d4efd3296dfbd9d0c7"), looks := false }, kinds := [], alts := [], laidByText := true, laidKinds := [.data], laidTests := true, laidLooks := .later }
def FnExactEnoughUptoCardSaid : Prop := Claim7.holds Tryd.pinned (.plain (OpenSpec.upto fnExactEnoughSpec)) fnExactEnoughUptoCard
end Rows
end Go.Proofs.YtieipekhckambaaDoor
