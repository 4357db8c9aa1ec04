/-
  DERIVED. GIVEN WITH THE SEED: THE CARDS: each row of YtoegamlpgenfcaaDoorRows.lean that lists a variable, with what it lists TIED to the program's text (the seventh form; the later family's looks); each row that meets fmt, with fmt's text TOLD by the authors' own Lean function (tested against real Go, not proved from fmt's source: count such statements apart). THE CARD IS WHAT COUNTS. Prove the row's statement (the work); the ties are given (YtoegamlpgenfcaaDoorTie.lean); close each card by the builder's one call (the guide's Derived/Test/ToyasCard.lean, 'card_holds'). Laid BY PROGRAM, IN A SANDBOX (cutbox-door.mjs). By AI agents, Wed Nov 11 2026. No macro, syntax, notation, axiom, sorry.
-/
import Derived.Test.YtoegamlpgenfcaaDoorRows
import GoSem.ClaimSeven
namespace Go.Proofs.YtoegamlpgenfcaaDoor
namespace Rows

/-- THE TIED CARD OF 'userplanelaw12.DematchPlays'. -/
def dematchPlaysCard : Claim7 := { stood := { row := dematchPlaysRow, standIns := [], harness := (true, "8e73b43a6b039668d349a4ff933c81f7d3a1e0ff16dfe60d6ba8a31c20921a3f"), looks := false }, kinds := [], alts := [], laidByText := true, laidKinds := [.data, .data], laidTests := true, laidLooks := .later }
def DematchPlaysCardSaid : Prop := Claim7.holds Tryd.pinned (.plain (OpenSpec.ofChange dematchPlaysSpec)) dematchPlaysCard

/-- THE TIED CARD OF 'userplanelaw12.DematchNews'. -/
def dematchNewsCard : Claim7 := { stood := { row := dematchNewsRow, standIns := [], harness := (true, "8e73b43a6b039668d349a4ff933c81f7d3a1e0ff16dfe60d6ba8a31c20921a3f"), looks := false }, kinds := [], alts := [], laidByText := true, laidKinds := [.data, .data], laidTests := true, laidLooks := .later }
def DematchNewsCardSaid : Prop := Claim7.holds Tryd.pinned (.plain (OpenSpec.ofChange dematchNewsSpec)) dematchNewsCard

/-- THE TIED CARD OF 'userplanelaw12.DematchClones'. -/
def dematchClonesCard : Claim7 := { stood := { row := dematchClonesRow, standIns := [], harness := (true, "8e73b43a6b039668d349a4ff933c81f7d3a1e0ff16dfe60d6ba8a31c20921a3f"), looks := false }, kinds := [], alts := [], laidByText := true, laidKinds := [.data, .data], laidTests := true, laidLooks := .later }
def DematchClonesCardSaid : Prop := Claim7.holds Tryd.pinned (.plain (OpenSpec.ofChange dematchClonesSpec)) dematchClonesCard

/-- THE TIED CARD OF 'userplanelaw12.DematchNone'. -/
def dematchNoneCard : Claim7 := { stood := { row := dematchNoneRow, standIns := [], harness := (true, "8e73b43a6b039668d349a4ff933c81f7d3a1e0ff16dfe60d6ba8a31c20921a3f"), looks := false }, kinds := [], alts := [], laidByText := true, laidKinds := [.data, .data], laidTests := true, laidLooks := .later }
def DematchNoneCardSaid : Prop := Claim7.holds Tryd.pinned (.plain (OpenSpec.ofChange dematchNoneSpec)) dematchNoneCard

/-- THE TIED CARD OF 'userplanelaw12.DematchBounds'. -/
def dematchBoundsCard : Claim7 := { stood := { row := dematchBoundsRow, standIns := [], harness := (true, "8e73b43a6b039668d349a4ff933c81f7d3a1e0ff16dfe60d6ba8a31c20921a3f"), looks := false }, kinds := [], alts := [], laidByText := true, laidKinds := [.data, .data], laidTests := true, laidLooks := .later }
def DematchBoundsCardSaid : Prop := Claim7.holds Tryd.pinned (.plain (OpenSpec.ofChange dematchBoundsSpec)) dematchBoundsCard

/-- THE TIED CARD OF 'userplanelaw12.DematchHolds'. -/
def dematchHoldsCard : Claim7 := { stood := { row := dematchHoldsRow, standIns := [], harness := (true, "8e73b43a6b039668d349a4ff933c81f7d3a1e0ff16dfe60d6ba8a31c20921a3f"), looks := false }, kinds := [], alts := [], laidByText := true, laidKinds := [.data, .data], laidTests := true, laidLooks := .later }
def DematchHoldsCardSaid : Prop := Claim7.holds Tryd.pinned (.plain (OpenSpec.ofChange dematchHoldsSpec)) dematchHoldsCard

/-- THE SECOND FORM's CARD OF 'userplanelaw12.DematchPlays'. -/
def dematchPlaysUptoCard : Claim7 := { stood := { row := dematchPlaysUptoRow, standIns := [], harness := (true, "8e73b43a6b039668d349a4ff933c81f7d3a1e0ff16dfe60d6ba8a31c20921a3f"), looks := false }, kinds := [], alts := [], laidByText := true, laidKinds := [.data, .data], laidTests := true, laidLooks := .later }
def DematchPlaysUptoCardSaid : Prop := Claim7.holds Tryd.pinned (.plain (OpenSpec.upto dematchPlaysSpec)) dematchPlaysUptoCard

/-- THE SECOND FORM's CARD OF 'userplanelaw12.DematchNews'. -/
def dematchNewsUptoCard : Claim7 := { stood := { row := dematchNewsUptoRow, standIns := [], harness := (true, "8e73b43a6b039668d349a4ff933c81f7d3a1e0ff16dfe60d6ba8a31c20921a3f"), looks := false }, kinds := [], alts := [], laidByText := true, laidKinds := [.data, .data], laidTests := true, laidLooks := .later }
def DematchNewsUptoCardSaid : Prop := Claim7.holds Tryd.pinned (.plain (OpenSpec.upto dematchNewsSpec)) dematchNewsUptoCard

/-- THE SECOND FORM's CARD OF 'userplanelaw12.DematchClones'. -/
def dematchClonesUptoCard : Claim7 := { stood := { row := dematchClonesUptoRow, standIns := [], harness := (true, "8e73b43a6b039668d349a4ff933c81f7d3a1e0ff16dfe60d6ba8a31c20921a3f"), looks := false }, kinds := [], alts := [], laidByText := true, laidKinds := [.data, .data], laidTests := true, laidLooks := .later }
def DematchClonesUptoCardSaid : Prop := Claim7.holds Tryd.pinned (.plain (OpenSpec.upto dematchClonesSpec)) dematchClonesUptoCard

/-- THE SECOND FORM's CARD OF 'userplanelaw12.DematchNone'. -/
def dematchNoneUptoCard : Claim7 := { stood := { row := dematchNoneUptoRow, standIns := [], harness := (true, "8e73b43a6b039668d349a4ff933c81f7d3a1e0ff16dfe60d6ba8a31c20921a3f"), looks := false }, kinds := [], alts := [], laidByText := true, laidKinds := [.data, .data], laidTests := true, laidLooks := .later }
def DematchNoneUptoCardSaid : Prop := Claim7.holds Tryd.pinned (.plain (OpenSpec.upto dematchNoneSpec)) dematchNoneUptoCard

/-- THE SECOND FORM's CARD OF 'userplanelaw12.DematchBounds'. -/
def dematchBoundsUptoCard : Claim7 := { stood := { row := dematchBoundsUptoRow, standIns := [], harness := (true, "8e73b43a6b039668d349a4ff933c81f7d3a1e0ff16dfe60d6ba8a31c20921a3f"), looks := false }, kinds := [], alts := [], laidByText := true, laidKinds := [.data, .data], laidTests := true, laidLooks := .later }
def DematchBoundsUptoCardSaid : Prop := Claim7.holds Tryd.pinned (.plain (OpenSpec.upto dematchBoundsSpec)) dematchBoundsUptoCard

/-- THE SECOND FORM's CARD OF 'userplanelaw12.DematchHolds'. -/
def dematchHoldsUptoCard : Claim7 := { stood := { row := dematchHoldsUptoRow, standIns := [], harness := (true, "8e73b43a6b039668d349a4ff933c81f7d3a1e0ff16dfe60d6ba8a31c20921a3f"), looks := false }, kinds := [], alts := [], laidByText := true, laidKinds := [.data, .data], laidTests := true, laidLooks := .later }
def DematchHoldsUptoCardSaid : Prop := Claim7.holds Tryd.pinned (.plain (OpenSpec.upto dematchHoldsSpec)) dematchHoldsUptoCard
end Rows
end Go.Proofs.YtoegamlpgenfcaaDoor
