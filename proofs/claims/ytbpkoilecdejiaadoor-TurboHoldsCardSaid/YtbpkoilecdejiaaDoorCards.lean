/-
  DERIVED. GIVEN WITH THE SEED: THE CARDS: each row of YtbpkoilecdejiaaDoorRows.lean that lists a variable, with what it lists TIED to the program's text (the seventh form; the later family's looks); each row that meets fmt, with fmt's text TOLD by the authors' own Lean function (tested against real Go, not proved from fmt's source: count such statements apart). THE CARD IS WHAT COUNTS. Prove the row's statement (the work); the ties are given (YtbpkoilecdejiaaDoorTie.lean); close each card by the builder's one call (the guide's Derived/Test/ToyasCard.lean, 'card_holds'). Laid BY PROGRAM, IN A SANDBOX (cutbox-door.mjs). By AI agents, Wed Nov 11 2026. No macro, syntax, notation, axiom, sorry.
-/
import Derived.Test.YtbpkoilecdejiaaDoorRows
import GoSem.ClaimSeven
namespace Go.Proofs.YtbpkoilecdejiaaDoor
namespace Rows

/-- THE TIED CARD OF 'userplanelaw08.TurboEncodes'. -/
def turboEncodesCard : Claim7 := { stood := { row := turboEncodesRow, standIns := [], harness := (true, "367b90d3eb7185afc7971d0815996fbca980dd5663f703b34239f4cafe623b12"), looks := true }, kinds := [], alts := [], laidByText := true, laidKinds := [.data], laidTests := true, laidLooks := .later }
def TurboEncodesCardSaid : Prop := Claim7.holds Tryd.pinned (.plain (OpenSpec.ofChange turboEncodesSpec)) turboEncodesCard

/-- THE TIED CARD OF 'userplanelaw08.TurboChecks'. -/
def turboChecksCard : Claim7 := { stood := { row := turboChecksRow, standIns := [], harness := (true, "367b90d3eb7185afc7971d0815996fbca980dd5663f703b34239f4cafe623b12"), looks := true }, kinds := [], alts := [], laidByText := true, laidKinds := [.data], laidTests := true, laidLooks := .later }
def TurboChecksCardSaid : Prop := Claim7.holds Tryd.pinned (.plain (OpenSpec.ofChange turboChecksSpec)) turboChecksCard

/-- THE TIED CARD OF 'userplanelaw08.TurboLayouts'. -/
def turboLayoutsCard : Claim7 := { stood := { row := turboLayoutsRow, standIns := [], harness := (true, "367b90d3eb7185afc7971d0815996fbca980dd5663f703b34239f4cafe623b12"), looks := true }, kinds := [], alts := [], laidByText := true, laidKinds := [.data], laidTests := true, laidLooks := .later }
def TurboLayoutsCardSaid : Prop := Claim7.holds Tryd.pinned (.plain (OpenSpec.ofChange turboLayoutsSpec)) turboLayoutsCard

/-- THE TIED CARD OF 'userplanelaw08.TurboLinear'. -/
def turboLinearCard : Claim7 := { stood := { row := turboLinearRow, standIns := [], harness := (true, "367b90d3eb7185afc7971d0815996fbca980dd5663f703b34239f4cafe623b12"), looks := true }, kinds := [], alts := [], laidByText := true, laidKinds := [.data], laidTests := true, laidLooks := .later }
def TurboLinearCardSaid : Prop := Claim7.holds Tryd.pinned (.plain (OpenSpec.ofChange turboLinearSpec)) turboLinearCard

/-- THE TIED CARD OF 'userplanelaw08.TurboLists'. -/
def turboListsCard : Claim7 := { stood := { row := turboListsRow, standIns := [], harness := (true, "367b90d3eb7185afc7971d0815996fbca980dd5663f703b34239f4cafe623b12"), looks := true }, kinds := [], alts := [], laidByText := true, laidKinds := [.data], laidTests := true, laidLooks := .later }
def TurboListsCardSaid : Prop := Claim7.holds Tryd.pinned (.plain (OpenSpec.ofChange turboListsSpec)) turboListsCard

/-- THE TIED CARD OF 'userplanelaw08.TurboFlips'. -/
def turboFlipsCard : Claim7 := { stood := { row := turboFlipsRow, standIns := [], harness := (true, "367b90d3eb7185afc7971d0815996fbca980dd5663f703b34239f4cafe623b12"), looks := true }, kinds := [], alts := [], laidByText := true, laidKinds := [.data], laidTests := true, laidLooks := .later }
def TurboFlipsCardSaid : Prop := Claim7.holds Tryd.pinned (.plain (OpenSpec.ofChange turboFlipsSpec)) turboFlipsCard

/-- THE TIED CARD OF 'userplanelaw08.TurboHolds'. -/
def turboHoldsCard : Claim7 := { stood := { row := turboHoldsRow, standIns := [], harness := (true, "367b90d3eb7185afc7971d0815996fbca980dd5663f703b34239f4cafe623b12"), looks := true }, kinds := [], alts := [], laidByText := true, laidKinds := [.data], laidTests := true, laidLooks := .later }
def TurboHoldsCardSaid : Prop := Claim7.holds Tryd.pinned (.plain (OpenSpec.ofChange turboHoldsSpec)) turboHoldsCard

/-- THE SECOND FORM's CARD OF 'userplanelaw08.TurboEncodes'. -/
def turboEncodesUptoCard : Claim7 := { stood := { row := turboEncodesUptoRow, standIns := [], harness := (true, "367b90d3eb7185afc7971d0815996fbca980dd5663f703b34239f4cafe623b12"), looks := true }, kinds := [], alts := [], laidByText := true, laidKinds := [.data], laidTests := true, laidLooks := .later }
def TurboEncodesUptoCardSaid : Prop := Claim7.holds Tryd.pinned (.plain (OpenSpec.upto turboEncodesSpec)) turboEncodesUptoCard

/-- THE SECOND FORM's CARD OF 'userplanelaw08.TurboChecks'. -/
def turboChecksUptoCard : Claim7 := { stood := { row := turboChecksUptoRow, standIns := [], harness := (true, "367b90d3eb7185afc7971d0815996fbca980dd5663f703b34239f4cafe623b12"), looks := true }, kinds := [], alts := [], laidByText := true, laidKinds := [.data], laidTests := true, laidLooks := .later }
def TurboChecksUptoCardSaid : Prop := Claim7.holds Tryd.pinned (.plain (OpenSpec.upto turboChecksSpec)) turboChecksUptoCard

/-- THE SECOND FORM's CARD OF 'userplanelaw08.TurboLayouts'. -/
def turboLayoutsUptoCard : Claim7 := { stood := { row := turboLayoutsUptoRow, standIns := [], harness := (true, "367b90d3eb7185afc7971d0815996fbca980dd5663f703b34239f4cafe623b12"), looks := true }, kinds := [], alts := [], laidByText := true, laidKinds := [.data], laidTests := true, laidLooks := .later }
def TurboLayoutsUptoCardSaid : Prop := Claim7.holds Tryd.pinned (.plain (OpenSpec.upto turboLayoutsSpec)) turboLayoutsUptoCard

/-- THE SECOND FORM's CARD OF 'userplanelaw08.TurboLinear'. -/
def turboLinearUptoCard : Claim7 := { stood := { row := turboLinearUptoRow, standIns := [], harness := (true, "367b90d3eb7185afc7971d0815996fbca980dd5663f703b34239f4cafe623b12"), looks := true }, kinds := [], alts := [], laidByText := true, laidKinds := [.data], laidTests := true, laidLooks := .later }
def TurboLinearUptoCardSaid : Prop := Claim7.holds Tryd.pinned (.plain (OpenSpec.upto turboLinearSpec)) turboLinearUptoCard

/-- THE SECOND FORM's CARD OF 'userplanelaw08.TurboLists'. -/
def turboListsUptoCard : Claim7 := { stood := { row := turboListsUptoRow, standIns := [], harness := (true, "367b90d3eb7185afc7971d0815996fbca980dd5663f703b34239f4cafe623b12"), looks := true }, kinds := [], alts := [], laidByText := true, laidKinds := [.data], laidTests := true, laidLooks := .later }
def TurboListsUptoCardSaid : Prop := Claim7.holds Tryd.pinned (.plain (OpenSpec.upto turboListsSpec)) turboListsUptoCard

/-- THE SECOND FORM's CARD OF 'userplanelaw08.TurboFlips'. -/
def turboFlipsUptoCard : Claim7 := { stood := { row := turboFlipsUptoRow, standIns := [], harness := (true, "367b90d3eb7185afc7971d0815996fbca980dd5663f703b34239f4cafe623b12"), looks := true }, kinds := [], alts := [], laidByText := true, laidKinds := [.data], laidTests := true, laidLooks := .later }
def TurboFlipsUptoCardSaid : Prop := Claim7.holds Tryd.pinned (.plain (OpenSpec.upto turboFlipsSpec)) turboFlipsUptoCard

/-- THE SECOND FORM's CARD OF 'userplanelaw08.TurboHolds'. -/
def turboHoldsUptoCard : Claim7 := { stood := { row := turboHoldsUptoRow, standIns := [], harness := (true, "367b90d3eb7185afc7971d0815996fbca980dd5663f703b34239f4cafe623b12"), looks := true }, kinds := [], alts := [], laidByText := true, laidKinds := [.data], laidTests := true, laidLooks := .later }
def TurboHoldsUptoCardSaid : Prop := Claim7.holds Tryd.pinned (.plain (OpenSpec.upto turboHoldsSpec)) turboHoldsUptoCard
end Rows
end Go.Proofs.YtbpkoilecdejiaaDoor
