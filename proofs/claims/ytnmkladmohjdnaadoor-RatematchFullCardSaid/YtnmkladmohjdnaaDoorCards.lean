/-
  DERIVED. GIVEN WITH THE SEED: THE CARDS: each row of YtnmkladmohjdnaaDoorRows.lean that lists a variable, with what it lists TIED to the program's text (the seventh form; the later family's looks); each row that meets fmt, with fmt's text TOLD by the authors' own Lean function (tested against real Go, not proved from fmt's source: count such statements apart). THE CARD IS WHAT COUNTS. Prove the row's statement (the work); the ties are given (YtnmkladmohjdnaaDoorTie.lean); close each card by the builder's one call (the guide's Derived/Test/ToyasCard.lean, 'card_holds'). Laid BY PROGRAM, IN A SANDBOX (cutbox-door.mjs). By AI agents, Wed Nov 11 2026. No macro, syntax, notation, axiom, sorry.
-/
import Derived.Test.YtnmkladmohjdnaaDoorRows
import GoSem.ClaimSeven
namespace Go.Proofs.YtnmkladmohjdnaaDoor
namespace Rows

/-- THE TIED CARD OF 'userplanelaw10.RatematchBuffers'. -/
def ratematchBuffersCard : Claim7 := { stood := { row := ratematchBuffersRow, standIns := [], harness := (true, "47d644e617bece1f6b2968e90d5be3220e34be9db5cc01f5c347c64b8bf47a75"), looks := false }, kinds := [], alts := [], laidByText := true, laidKinds := [.data], laidTests := true, laidLooks := .later }
def RatematchBuffersCardSaid : Prop := Claim7.holds Tryd.pinned (.plain (OpenSpec.ofChange ratematchBuffersSpec)) ratematchBuffersCard

/-- THE TIED CARD OF 'userplanelaw10.RatematchStarts'. -/
def ratematchStartsCard : Claim7 := { stood := { row := ratematchStartsRow, standIns := [], harness := (true, "47d644e617bece1f6b2968e90d5be3220e34be9db5cc01f5c347c64b8bf47a75"), looks := false }, kinds := [], alts := [], laidByText := true, laidKinds := [.data], laidTests := true, laidLooks := .later }
def RatematchStartsCardSaid : Prop := Claim7.holds Tryd.pinned (.plain (OpenSpec.ofChange ratematchStartsSpec)) ratematchStartsCard

/-- THE TIED CARD OF 'userplanelaw10.RatematchPositions'. -/
def ratematchPositionsCard : Claim7 := { stood := { row := ratematchPositionsRow, standIns := [], harness := (true, "47d644e617bece1f6b2968e90d5be3220e34be9db5cc01f5c347c64b8bf47a75"), looks := false }, kinds := [], alts := [], laidByText := true, laidKinds := [.data], laidTests := true, laidLooks := .later }
def RatematchPositionsCardSaid : Prop := Claim7.holds Tryd.pinned (.plain (OpenSpec.ofChange ratematchPositionsSpec)) ratematchPositionsCard

/-- THE TIED CARD OF 'userplanelaw10.RatematchCovers'. -/
def ratematchCoversCard : Claim7 := { stood := { row := ratematchCoversRow, standIns := [], harness := (true, "47d644e617bece1f6b2968e90d5be3220e34be9db5cc01f5c347c64b8bf47a75"), looks := false }, kinds := [], alts := [], laidByText := true, laidKinds := [.data], laidTests := true, laidLooks := .later }
def RatematchCoversCardSaid : Prop := Claim7.holds Tryd.pinned (.plain (OpenSpec.ofChange ratematchCoversSpec)) ratematchCoversCard

/-- THE TIED CARD OF 'userplanelaw10.RatematchFollows'. -/
def ratematchFollowsCard : Claim7 := { stood := { row := ratematchFollowsRow, standIns := [], harness := (true, "47d644e617bece1f6b2968e90d5be3220e34be9db5cc01f5c347c64b8bf47a75"), looks := false }, kinds := [], alts := [], laidByText := true, laidKinds := [.data], laidTests := true, laidLooks := .later }
def RatematchFollowsCardSaid : Prop := Claim7.holds Tryd.pinned (.plain (OpenSpec.ofChange ratematchFollowsSpec)) ratematchFollowsCard

/-- THE TIED CARD OF 'userplanelaw10.RatematchFull'. -/
def ratematchFullCard : Claim7 := { stood := { row := ratematchFullRow, standIns := [], harness := (true, "47d644e617bece1f6b2968e90d5be3220e34be9db5cc01f5c347c64b8bf47a75"), looks := false }, kinds := [], alts := [], laidByText := true, laidKinds := [.data], laidTests := true, laidLooks := .later }
def RatematchFullCardSaid : Prop := Claim7.holds Tryd.pinned (.plain (OpenSpec.ofChange ratematchFullSpec)) ratematchFullCard

/-- THE TIED CARD OF 'userplanelaw10.RatematchMost'. -/
def ratematchMostCard : Claim7 := { stood := { row := ratematchMostRow, standIns := [], harness := (true, "47d644e617bece1f6b2968e90d5be3220e34be9db5cc01f5c347c64b8bf47a75"), looks := false }, kinds := [], alts := [], laidByText := true, laidKinds := [.data], laidTests := true, laidLooks := .later }
def RatematchMostCardSaid : Prop := Claim7.holds Tryd.pinned (.plain (OpenSpec.ofChange ratematchMostSpec)) ratematchMostCard

/-- THE SECOND FORM's CARD OF 'userplanelaw10.RatematchBuffers'. -/
def ratematchBuffersUptoCard : Claim7 := { stood := { row := ratematchBuffersUptoRow, standIns := [], harness := (true, "47d644e617bece1f6b2968e90d5be3220e34be9db5cc01f5c347c64b8bf47a75"), looks := false }, kinds := [], alts := [], laidByText := true, laidKinds := [.data], laidTests := true, laidLooks := .later }
def RatematchBuffersUptoCardSaid : Prop := Claim7.holds Tryd.pinned (.plain (OpenSpec.upto ratematchBuffersSpec)) ratematchBuffersUptoCard

/-- THE SECOND FORM's CARD OF 'userplanelaw10.RatematchStarts'. -/
def ratematchStartsUptoCard : Claim7 := { stood := { row := ratematchStartsUptoRow, standIns := [], harness := (true, "47d644e617bece1f6b2968e90d5be3220e34be9db5cc01f5c347c64b8bf47a75"), looks := false }, kinds := [], alts := [], laidByText := true, laidKinds := [.data], laidTests := true, laidLooks := .later }
def RatematchStartsUptoCardSaid : Prop := Claim7.holds Tryd.pinned (.plain (OpenSpec.upto ratematchStartsSpec)) ratematchStartsUptoCard

/-- THE SECOND FORM's CARD OF 'userplanelaw10.RatematchPositions'. -/
def ratematchPositionsUptoCard : Claim7 := { stood := { row := ratematchPositionsUptoRow, standIns := [], harness := (true, "47d644e617bece1f6b2968e90d5be3220e34be9db5cc01f5c347c64b8bf47a75"), looks := false }, kinds := [], alts := [], laidByText := true, laidKinds := [.data], laidTests := true, laidLooks := .later }
def RatematchPositionsUptoCardSaid : Prop := Claim7.holds Tryd.pinned (.plain (OpenSpec.upto ratematchPositionsSpec)) ratematchPositionsUptoCard

/-- THE SECOND FORM's CARD OF 'userplanelaw10.RatematchCovers'. -/
def ratematchCoversUptoCard : Claim7 := { stood := { row := ratematchCoversUptoRow, standIns := [], harness := (true, "47d644e617bece1f6b2968e90d5be3220e34be9db5cc01f5c347c64b8bf47a75"), looks := false }, kinds := [], alts := [], laidByText := true, laidKinds := [.data], laidTests := true, laidLooks := .later }
def RatematchCoversUptoCardSaid : Prop := Claim7.holds Tryd.pinned (.plain (OpenSpec.upto ratematchCoversSpec)) ratematchCoversUptoCard

/-- THE SECOND FORM's CARD OF 'userplanelaw10.RatematchFollows'. -/
def ratematchFollowsUptoCard : Claim7 := { stood := { row := ratematchFollowsUptoRow, standIns := [], harness := (true, "47d644e617bece1f6b2968e90d5be3220e34be9db5cc01f5c347c64b8bf47a75"), looks := false }, kinds := [], alts := [], laidByText := true, laidKinds := [.data], laidTests := true, laidLooks := .later }
def RatematchFollowsUptoCardSaid : Prop := Claim7.holds Tryd.pinned (.plain (OpenSpec.upto ratematchFollowsSpec)) ratematchFollowsUptoCard

/-- THE SECOND FORM's CARD OF 'userplanelaw10.RatematchFull'. -/
def ratematchFullUptoCard : Claim7 := { stood := { row := ratematchFullUptoRow, standIns := [], harness := (true, "47d644e617bece1f6b2968e90d5be3220e34be9db5cc01f5c347c64b8bf47a75"), looks := false }, kinds := [], alts := [], laidByText := true, laidKinds := [.data], laidTests := true, laidLooks := .later }
def RatematchFullUptoCardSaid : Prop := Claim7.holds Tryd.pinned (.plain (OpenSpec.upto ratematchFullSpec)) ratematchFullUptoCard

/-- THE SECOND FORM's CARD OF 'userplanelaw10.RatematchMost'. -/
def ratematchMostUptoCard : Claim7 := { stood := { row := ratematchMostUptoRow, standIns := [], harness := (true, "47d644e617bece1f6b2968e90d5be3220e34be9db5cc01f5c347c64b8bf47a75"), looks := false }, kinds := [], alts := [], laidByText := true, laidKinds := [.data], laidTests := true, laidLooks := .later }
def RatematchMostUptoCardSaid : Prop := Claim7.holds Tryd.pinned (.plain (OpenSpec.upto ratematchMostSpec)) ratematchMostUptoCard
end Rows
end Go.Proofs.YtnmkladmohjdnaaDoor
