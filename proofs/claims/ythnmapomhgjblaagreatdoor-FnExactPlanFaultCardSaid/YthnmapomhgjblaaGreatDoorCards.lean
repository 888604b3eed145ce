/-
  DERIVED. GIVEN WITH THE SEED: THE CARDS: each row of YthnmapomhgjblaaGreatDoorRows.lean that lists a variable, with what it lists TIED to the program's text (the seventh form; the later family's looks); each row that meets fmt, with fmt's text TOLD by the authors' own Lean function (tested against real Go, not proved from fmt's source: count such statements apart). THE CARD IS WHAT COUNTS. Prove the row's statement (the work); the ties are given (YthnmapomhgjblaaGreatDoorTie.lean); close each card by the builder's one call (the guide's Derived/Test/ToyasCard.lean, 'card_holds'). Laid BY PROGRAM, IN A SANDBOX (cutbox-door.mjs). By AI agents, Wed Nov 11 2026. No macro, syntax, notation, axiom, sorry.
-/
import Derived.Test.YthnmapomhgjblaaGreatDoorRows
import GoSem.ClaimSeven
namespace Go.Proofs.YthnmapomhgjblaaGreatDoor
namespace Rows

/-- THE TIED CARD OF 'laws.FnPlans'. -/
def fnPlansCard : Claim7 := { stood := { row := fnPlansRow, standIns := [], harness := (true, "57d152a12d9a1921b7c4b1713cea72d7e7f2153747c6e569d7b1c9edf2a733e0"), looks := true }, kinds := [], alts := [], laidByText := true, laidKinds := [.handle, .data], laidTests := true, laidLooks := .later }
def FnPlansCardSaid : Prop := Claim7.holds Tryz.pinned (.plain (OpenSpec.ofChange fnPlansSpec)) fnPlansCard

/-- THE TIED CARD OF 'laws.FnExactPlanFault'. -/
def fnExactPlanFaultCard : Claim7 := { stood := { row := fnExactPlanFaultRow, standIns := [], harness := (true, "57d152a12d9a1921b7c4b1713cea72d7e7f2153747c6e569d7b1c9edf2a733e0"), looks := true }, kinds := [], alts := [], laidByText := true, laidKinds := [.handle, .data], laidTests := true, laidLooks := .later }
def FnExactPlanFaultCardSaid : Prop := Claim7.holds Tryz.pinned (.plain (OpenSpec.ofChange fnExactPlanFaultSpec)) fnExactPlanFaultCard

/-- THE SECOND FORM's CARD OF 'laws.FnPlans'. -/
def fnPlansUptoCard : Claim7 := { stood := { row := fnPlansUptoRow, standIns := [], harness := (true, "57d152a12d9a1921b7c4b1713cea72d7e7f2153747c6e569d7b1c9edf2a733e0"), looks := true }, kinds := [], alts := [], laidByText := true, laidKinds := [.handle, .data], laidTests := true, laidLooks := .later }
def FnPlansUptoCardSaid : Prop := Claim7.holds Tryz.pinned (.plain (OpenSpec.upto fnPlansSpec)) fnPlansUptoCard

/-- THE SECOND FORM's CARD OF 'laws.FnExactPlanFault'. -/
def fnExactPlanFaultUptoCard : Claim7 := { stood := { row := fnExactPlanFaultUptoRow, standIns := [], harness := (true, "57d152a12d9a1921b7c4b1713cea72d7e7f2153747c6e569d7b1c9edf2a733e0"), looks := true }, kinds := [], alts := [], laidByText := true, laidKinds := [.handle, .data], laidTests := true, laidLooks := .later }
def FnExactPlanFaultUptoCardSaid : Prop := Claim7.holds Tryz.pinned (.plain (OpenSpec.upto fnExactPlanFaultSpec)) fnExactPlanFaultUptoCard
end Rows
end Go.Proofs.YthnmapomhgjblaaGreatDoor
