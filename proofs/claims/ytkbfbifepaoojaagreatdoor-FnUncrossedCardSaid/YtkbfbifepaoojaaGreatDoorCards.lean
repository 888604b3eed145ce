/-
  DERIVED. GIVEN WITH THE SEED: THE CARDS: each row of YtkbfbifepaoojaaGreatDoorRows.lean that lists a variable, with what it lists TIED to the program's text (the seventh form; the later family's looks); each row that meets fmt, with fmt's text TOLD by the authors' own Lean function (tested against real Go, not proved from fmt's source: count such statements apart). THE CARD IS WHAT COUNTS. Prove the row's statement (the work); the ties are given (YtkbfbifepaoojaaGreatDoorTie.lean); close each card by the builder's one call (the guide's Derived/Test/ToyasCard.lean, 'card_holds'). Laid BY PROGRAM, IN A SANDBOX (cutbox-door.mjs). By AI agents, Wed Nov 11 2026. No macro, syntax, notation, axiom, sorry.
-/
import Derived.Test.YtkbfbifepaoojaaGreatDoorRows
import GoSem.ClaimSeven
namespace Go.Proofs.YtkbfbifepaoojaaGreatDoor
namespace Rows

/-- THE TIED CARD OF 'laws.FnUncrossed'. -/
def fnUncrossedCard : Claim7 := { stood := { row := fnUncrossedRow, standIns := [], harness := (true, "cfc5de3ff6a6a6f0b93417129e50bb43a5fc5a4825aff29794368fa336ceda86"), looks := true }, kinds := [], alts := [], laidByText := true, laidKinds := [.handle, .data], laidTests := true, laidLooks := .later }
def FnUncrossedCardSaid : Prop := Claim7.holds Tryz.pinned (.plain (OpenSpec.ofChange fnUncrossedSpec)) fnUncrossedCard

/-- THE TIED CARD OF 'laws.FnPlans'. -/
def fnPlansCard : Claim7 := { stood := { row := fnPlansRow, standIns := [], harness := (true, "cfc5de3ff6a6a6f0b93417129e50bb43a5fc5a4825aff29794368fa336ceda86"), looks := true }, kinds := [], alts := [], laidByText := true, laidKinds := [.handle, .data], laidTests := true, laidLooks := .later }
def FnPlansCardSaid : Prop := Claim7.holds Tryz.pinned (.plain (OpenSpec.ofChange fnPlansSpec)) fnPlansCard

/-- THE TIED CARD OF 'laws.FnWaysBack'. -/
def fnWaysBackCard : Claim7 := { stood := { row := fnWaysBackRow, standIns := [], harness := (true, "cfc5de3ff6a6a6f0b93417129e50bb43a5fc5a4825aff29794368fa336ceda86"), looks := true }, kinds := [], alts := [], laidByText := true, laidKinds := [.data], laidTests := true, laidLooks := .later }
def FnWaysBackCardSaid : Prop := Claim7.holds Tryz.pinned (.plain (OpenSpec.ofChange fnWaysBackSpec)) fnWaysBackCard

/-- THE SECOND FORM's CARD OF 'laws.FnUncrossed'. -/
def fnUncrossedUptoCard : Claim7 := { stood := { row := fnUncrossedUptoRow, standIns := [], harness := (true, "cfc5de3ff6a6a6f0b93417129e50bb43a5fc5a4825aff29794368fa336ceda86"), looks := true }, kinds := [], alts := [], laidByText := true, laidKinds := [.handle, .data], laidTests := true, laidLooks := .later }
def FnUncrossedUptoCardSaid : Prop := Claim7.holds Tryz.pinned (.plain (OpenSpec.upto fnUncrossedSpec)) fnUncrossedUptoCard

/-- THE SECOND FORM's CARD OF 'laws.FnPlans'. -/
def fnPlansUptoCard : Claim7 := { stood := { row := fnPlansUptoRow, standIns := [], harness := (true, "cfc5de3ff6a6a6f0b93417129e50bb43a5fc5a4825aff29794368fa336ceda86"), looks := true }, kinds := [], alts := [], laidByText := true, laidKinds := [.handle, .data], laidTests := true, laidLooks := .later }
def FnPlansUptoCardSaid : Prop := Claim7.holds Tryz.pinned (.plain (OpenSpec.upto fnPlansSpec)) fnPlansUptoCard

/-- THE SECOND FORM's CARD OF 'laws.FnWaysBack'. -/
def fnWaysBackUptoCard : Claim7 := { stood := { row := fnWaysBackUptoRow, standIns := [], harness := (true, "cfc5de3ff6a6a6f0b93417129e50bb43a5fc5a4825aff29794368fa336ceda86"), looks := true }, kinds := [], alts := [], laidByText := true, laidKinds := [.data], laidTests := true, laidLooks := .later }
def FnWaysBackUptoCardSaid : Prop := Claim7.holds Tryz.pinned (.plain (OpenSpec.upto fnWaysBackSpec)) fnWaysBackUptoCard
end Rows
end Go.Proofs.YtkbfbifepaoojaaGreatDoor
