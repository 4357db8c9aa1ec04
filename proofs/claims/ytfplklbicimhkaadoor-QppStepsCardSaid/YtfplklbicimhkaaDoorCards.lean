/-
  DERIVED. GIVEN WITH THE SEED: THE CARDS: each row of YtfplklbicimhkaaDoorRows.lean that lists a variable, with what it lists TIED to the program's text (the seventh form; the later family's looks); each row that meets fmt, with fmt's text TOLD by the authors' own Lean function (tested against real Go, not proved from fmt's source: count such statements apart). THE CARD IS WHAT COUNTS. Prove the row's statement (the work); the ties are given (YtfplklbicimhkaaDoorTie.lean); close each card by the builder's one call (the guide's Derived/Test/ToyasCard.lean, 'card_holds'). Laid BY PROGRAM, IN A SANDBOX (cutbox-door.mjs). By AI agents, Wed Nov 11 2026. No macro, syntax, notation, axiom, sorry.
-/
import Derived.Test.YtfplklbicimhkaaDoorRows
import GoSem.ClaimSeven
namespace Go.Proofs.YtfplklbicimhkaaDoor
namespace Rows

/-- THE TIED CARD OF 'userplanelaw06.QppParams'. -/
def qppParamsCard : Claim7 := { stood := { row := qppParamsRow, standIns := [], harness := (true, "a532bdc0dcacd5e7dbeaa40a1d1efdd1e97c919534d3b0c840957c9ac5997221"), looks := true }, kinds := [], alts := [], laidByText := true, laidKinds := [.data], laidTests := true, laidLooks := .later }
def QppParamsCardSaid : Prop := Claim7.holds Tryd.pinned (.plain (OpenSpec.ofChange qppParamsSpec)) qppParamsCard

/-- THE TIED CARD OF 'userplanelaw06.QppOrders'. -/
def qppOrdersCard : Claim7 := { stood := { row := qppOrdersRow, standIns := [], harness := (true, "a532bdc0dcacd5e7dbeaa40a1d1efdd1e97c919534d3b0c840957c9ac5997221"), looks := true }, kinds := [], alts := [], laidByText := true, laidKinds := [.data], laidTests := true, laidLooks := .later }
def QppOrdersCardSaid : Prop := Claim7.holds Tryd.pinned (.plain (OpenSpec.ofChange qppOrdersSpec)) qppOrdersCard

/-- THE TIED CARD OF 'userplanelaw06.QppInterleaves'. -/
def qppInterleavesCard : Claim7 := { stood := { row := qppInterleavesRow, standIns := [], harness := (true, "a532bdc0dcacd5e7dbeaa40a1d1efdd1e97c919534d3b0c840957c9ac5997221"), looks := true }, kinds := [], alts := [], laidByText := true, laidKinds := [.data], laidTests := true, laidLooks := .later }
def QppInterleavesCardSaid : Prop := Claim7.holds Tryd.pinned (.plain (OpenSpec.ofChange qppInterleavesSpec)) qppInterleavesCard

/-- THE TIED CARD OF 'userplanelaw06.QppBits'. -/
def qppBitsCard : Claim7 := { stood := { row := qppBitsRow, standIns := [], harness := (true, "a532bdc0dcacd5e7dbeaa40a1d1efdd1e97c919534d3b0c840957c9ac5997221"), looks := true }, kinds := [], alts := [], laidByText := true, laidKinds := [.data], laidTests := true, laidLooks := .later }
def QppBitsCardSaid : Prop := Claim7.holds Tryd.pinned (.plain (OpenSpec.ofChange qppBitsSpec)) qppBitsCard

/-- THE TIED CARD OF 'userplanelaw06.QppSteps'. -/
def qppStepsCard : Claim7 := { stood := { row := qppStepsRow, standIns := [], harness := (true, "a532bdc0dcacd5e7dbeaa40a1d1efdd1e97c919534d3b0c840957c9ac5997221"), looks := true }, kinds := [], alts := [], laidByText := true, laidKinds := [.data], laidTests := true, laidLooks := .later }
def QppStepsCardSaid : Prop := Claim7.holds Tryd.pinned (.plain (OpenSpec.ofChange qppStepsSpec)) qppStepsCard

/-- THE TIED CARD OF 'userplanelaw06.QppFree'. -/
def qppFreeCard : Claim7 := { stood := { row := qppFreeRow, standIns := [], harness := (true, "a532bdc0dcacd5e7dbeaa40a1d1efdd1e97c919534d3b0c840957c9ac5997221"), looks := true }, kinds := [], alts := [], laidByText := true, laidKinds := [.data], laidTests := true, laidLooks := .later }
def QppFreeCardSaid : Prop := Claim7.holds Tryd.pinned (.plain (OpenSpec.ofChange qppFreeSpec)) qppFreeCard

/-- THE TIED CARD OF 'userplanelaw06.QppHolds'. -/
def qppHoldsCard : Claim7 := { stood := { row := qppHoldsRow, standIns := [], harness := (true, "a532bdc0dcacd5e7dbeaa40a1d1efdd1e97c919534d3b0c840957c9ac5997221"), looks := true }, kinds := [], alts := [], laidByText := true, laidKinds := [.data], laidTests := true, laidLooks := .later }
def QppHoldsCardSaid : Prop := Claim7.holds Tryd.pinned (.plain (OpenSpec.ofChange qppHoldsSpec)) qppHoldsCard

/-- THE SECOND FORM's CARD OF 'userplanelaw06.QppParams'. -/
def qppParamsUptoCard : Claim7 := { stood := { row := qppParamsUptoRow, standIns := [], harness := (true, "a532bdc0dcacd5e7dbeaa40a1d1efdd1e97c919534d3b0c840957c9ac5997221"), looks := true }, kinds := [], alts := [], laidByText := true, laidKinds := [.data], laidTests := true, laidLooks := .later }
def QppParamsUptoCardSaid : Prop := Claim7.holds Tryd.pinned (.plain (OpenSpec.upto qppParamsSpec)) qppParamsUptoCard

/-- THE SECOND FORM's CARD OF 'userplanelaw06.QppOrders'. -/
def qppOrdersUptoCard : Claim7 := { stood := { row := qppOrdersUptoRow, standIns := [], harness := (true, "a532bdc0dcacd5e7dbeaa40a1d1efdd1e97c919534d3b0c840957c9ac5997221"), looks := true }, kinds := [], alts := [], laidByText := true, laidKinds := [.data], laidTests := true, laidLooks := .later }
def QppOrdersUptoCardSaid : Prop := Claim7.holds Tryd.pinned (.plain (OpenSpec.upto qppOrdersSpec)) qppOrdersUptoCard

/-- THE SECOND FORM's CARD OF 'userplanelaw06.QppInterleaves'. -/
def qppInterleavesUptoCard : Claim7 := { stood := { row := qppInterleavesUptoRow, standIns := [], harness := (true, "a532bdc0dcacd5e7dbeaa40a1d1efdd1e97c919534d3b0c840957c9ac5997221"), looks := true }, kinds := [], alts := [], laidByText := true, laidKinds := [.data], laidTests := true, laidLooks := .later }
def QppInterleavesUptoCardSaid : Prop := Claim7.holds Tryd.pinned (.plain (OpenSpec.upto qppInterleavesSpec)) qppInterleavesUptoCard

/-- THE SECOND FORM's CARD OF 'userplanelaw06.QppBits'. -/
def qppBitsUptoCard : Claim7 := { stood := { row := qppBitsUptoRow, standIns := [], harness := (true, "a532bdc0dcacd5e7dbeaa40a1d1efdd1e97c919534d3b0c840957c9ac5997221"), looks := true }, kinds := [], alts := [], laidByText := true, laidKinds := [.data], laidTests := true, laidLooks := .later }
def QppBitsUptoCardSaid : Prop := Claim7.holds Tryd.pinned (.plain (OpenSpec.upto qppBitsSpec)) qppBitsUptoCard

/-- THE SECOND FORM's CARD OF 'userplanelaw06.QppSteps'. -/
def qppStepsUptoCard : Claim7 := { stood := { row := qppStepsUptoRow, standIns := [], harness := (true, "a532bdc0dcacd5e7dbeaa40a1d1efdd1e97c919534d3b0c840957c9ac5997221"), looks := true }, kinds := [], alts := [], laidByText := true, laidKinds := [.data], laidTests := true, laidLooks := .later }
def QppStepsUptoCardSaid : Prop := Claim7.holds Tryd.pinned (.plain (OpenSpec.upto qppStepsSpec)) qppStepsUptoCard

/-- THE SECOND FORM's CARD OF 'userplanelaw06.QppFree'. -/
def qppFreeUptoCard : Claim7 := { stood := { row := qppFreeUptoRow, standIns := [], harness := (true, "a532bdc0dcacd5e7dbeaa40a1d1efdd1e97c919534d3b0c840957c9ac5997221"), looks := true }, kinds := [], alts := [], laidByText := true, laidKinds := [.data], laidTests := true, laidLooks := .later }
def QppFreeUptoCardSaid : Prop := Claim7.holds Tryd.pinned (.plain (OpenSpec.upto qppFreeSpec)) qppFreeUptoCard

/-- THE SECOND FORM's CARD OF 'userplanelaw06.QppHolds'. -/
def qppHoldsUptoCard : Claim7 := { stood := { row := qppHoldsUptoRow, standIns := [], harness := (true, "a532bdc0dcacd5e7dbeaa40a1d1efdd1e97c919534d3b0c840957c9ac5997221"), looks := true }, kinds := [], alts := [], laidByText := true, laidKinds := [.data], laidTests := true, laidLooks := .later }
def QppHoldsUptoCardSaid : Prop := Claim7.holds Tryd.pinned (.plain (OpenSpec.upto qppHoldsSpec)) qppHoldsUptoCard
end Rows
end Go.Proofs.YtfplklbicimhkaaDoor
