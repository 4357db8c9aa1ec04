/-
  DERIVED. GIVEN WITH THE SEED: THE CARDS: each row of YtekldonfmfnmpaaDoorRows.lean that lists a variable, with what it lists TIED to the program's text (the seventh form; the later family's looks); each row that meets fmt, with fmt's text TOLD by the authors' own Lean function (tested against real Go, not proved from fmt's source: count such statements apart). THE CARD IS WHAT COUNTS. Prove the row's statement (the work); the ties are given (YtekldonfmfnmpaaDoorTie.lean); close each card by the builder's one call (the guide's Derived/Test/ToyasCard.lean, 'card_holds'). Laid BY PROGRAM, IN A SANDBOX (cutbox-door.mjs). By AI agents, Wed Nov 11 2026. No macro, syntax, notation, axiom, sorry.
-/
import Derived.Test.YtekldonfmfnmpaaDoorRows
import GoSem.ClaimSeven
namespace Go.Proofs.YtekldonfmfnmpaaDoor
namespace Rows

/-- THE TIED CARD OF 'userplanelaw03.CrcComputes'. -/
def crcComputesCard : Claim7 := { stood := { row := crcComputesRow, standIns := [], harness := (true, "a776140dd8e0d05de4fe7783bdea91254fbd2c2f686a1ef57cfbd6963453be3d"), looks := false }, kinds := [], alts := [], laidByText := true, laidKinds := [.data], laidTests := true, laidLooks := .later }
def CrcComputesCardSaid : Prop := Claim7.holds Tryd.pinned (.plain (OpenSpec.ofChange crcComputesSpec)) crcComputesCard

/-- THE TIED CARD OF 'userplanelaw03.CrcChecks'. -/
def crcChecksCard : Claim7 := { stood := { row := crcChecksRow, standIns := [], harness := (true, "a776140dd8e0d05de4fe7783bdea91254fbd2c2f686a1ef57cfbd6963453be3d"), looks := false }, kinds := [], alts := [], laidByText := true, laidKinds := [.data], laidTests := true, laidLooks := .later }
def CrcChecksCardSaid : Prop := Claim7.holds Tryd.pinned (.plain (OpenSpec.ofChange crcChecksSpec)) crcChecksCard

/-- THE TIED CARD OF 'userplanelaw03.CrcBack'. -/
def crcBackCard : Claim7 := { stood := { row := crcBackRow, standIns := [], harness := (true, "a776140dd8e0d05de4fe7783bdea91254fbd2c2f686a1ef57cfbd6963453be3d"), looks := false }, kinds := [], alts := [], laidByText := true, laidKinds := [.data], laidTests := true, laidLooks := .later }
def CrcBackCardSaid : Prop := Claim7.holds Tryd.pinned (.plain (OpenSpec.ofChange crcBackSpec)) crcBackCard

/-- THE TIED CARD OF 'userplanelaw03.CrcLinear'. -/
def crcLinearCard : Claim7 := { stood := { row := crcLinearRow, standIns := [], harness := (true, "a776140dd8e0d05de4fe7783bdea91254fbd2c2f686a1ef57cfbd6963453be3d"), looks := false }, kinds := [], alts := [], laidByText := true, laidKinds := [.data], laidTests := true, laidLooks := .later }
def CrcLinearCardSaid : Prop := Claim7.holds Tryd.pinned (.plain (OpenSpec.ofChange crcLinearSpec)) crcLinearCard

/-- THE TIED CARD OF 'userplanelaw03.CrcResidue'. -/
def crcResidueCard : Claim7 := { stood := { row := crcResidueRow, standIns := [], harness := (true, "a776140dd8e0d05de4fe7783bdea91254fbd2c2f686a1ef57cfbd6963453be3d"), looks := false }, kinds := [], alts := [], laidByText := true, laidKinds := [.data], laidTests := true, laidLooks := .later }
def CrcResidueCardSaid : Prop := Claim7.holds Tryd.pinned (.plain (OpenSpec.ofChange crcResidueSpec)) crcResidueCard

/-- THE TIED CARD OF 'userplanelaw03.CrcBursts'. -/
def crcBurstsCard : Claim7 := { stood := { row := crcBurstsRow, standIns := [], harness := (true, "a776140dd8e0d05de4fe7783bdea91254fbd2c2f686a1ef57cfbd6963453be3d"), looks := false }, kinds := [], alts := [], laidByText := true, laidKinds := [.data], laidTests := true, laidLooks := .later }
def CrcBurstsCardSaid : Prop := Claim7.holds Tryd.pinned (.plain (OpenSpec.ofChange crcBurstsSpec)) crcBurstsCard

/-- THE TIED CARD OF 'userplanelaw03.CrcMasks'. -/
def crcMasksCard : Claim7 := { stood := { row := crcMasksRow, standIns := [], harness := (true, "a776140dd8e0d05de4fe7783bdea91254fbd2c2f686a1ef57cfbd6963453be3d"), looks := false }, kinds := [], alts := [], laidByText := true, laidKinds := [.data], laidTests := true, laidLooks := .later }
def CrcMasksCardSaid : Prop := Claim7.holds Tryd.pinned (.plain (OpenSpec.ofChange crcMasksSpec)) crcMasksCard

/-- THE TIED CARD OF 'userplanelaw03.CrcOwn'. -/
def crcOwnCard : Claim7 := { stood := { row := crcOwnRow, standIns := [], harness := (true, "a776140dd8e0d05de4fe7783bdea91254fbd2c2f686a1ef57cfbd6963453be3d"), looks := false }, kinds := [], alts := [], laidByText := true, laidKinds := [.data], laidTests := true, laidLooks := .later }
def CrcOwnCardSaid : Prop := Claim7.holds Tryd.pinned (.plain (OpenSpec.ofChange crcOwnSpec)) crcOwnCard

/-- THE SECOND FORM's CARD OF 'userplanelaw03.CrcComputes'. -/
def crcComputesUptoCard : Claim7 := { stood := { row := crcComputesUptoRow, standIns := [], harness := (true, "a776140dd8e0d05de4fe7783bdea91254fbd2c2f686a1ef57cfbd6963453be3d"), looks := false }, kinds := [], alts := [], laidByText := true, laidKinds := [.data], laidTests := true, laidLooks := .later }
def CrcComputesUptoCardSaid : Prop := Claim7.holds Tryd.pinned (.plain (OpenSpec.upto crcComputesSpec)) crcComputesUptoCard

/-- THE SECOND FORM's CARD OF 'userplanelaw03.CrcChecks'. -/
def crcChecksUptoCard : Claim7 := { stood := { row := crcChecksUptoRow, standIns := [], harness := (true, "a776140dd8e0d05de4fe7783bdea91254fbd2c2f686a1ef57cfbd6963453be3d"), looks := false }, kinds := [], alts := [], laidByText := true, laidKinds := [.data], laidTests := true, laidLooks := .later }
def CrcChecksUptoCardSaid : Prop := Claim7.holds Tryd.pinned (.plain (OpenSpec.upto crcChecksSpec)) crcChecksUptoCard

/-- THE SECOND FORM's CARD OF 'userplanelaw03.CrcBack'. -/
def crcBackUptoCard : Claim7 := { stood := { row := crcBackUptoRow, standIns := [], harness := (true, "a776140dd8e0d05de4fe7783bdea91254fbd2c2f686a1ef57cfbd6963453be3d"), looks := false }, kinds := [], alts := [], laidByText := true, laidKinds := [.data], laidTests := true, laidLooks := .later }
def CrcBackUptoCardSaid : Prop := Claim7.holds Tryd.pinned (.plain (OpenSpec.upto crcBackSpec)) crcBackUptoCard

/-- THE SECOND FORM's CARD OF 'userplanelaw03.CrcLinear'. -/
def crcLinearUptoCard : Claim7 := { stood := { row := crcLinearUptoRow, standIns := [], harness := (true, "a776140dd8e0d05de4fe7783bdea91254fbd2c2f686a1ef57cfbd6963453be3d"), looks := false }, kinds := [], alts := [], laidByText := true, laidKinds := [.data], laidTests := true, laidLooks := .later }
def CrcLinearUptoCardSaid : Prop := Claim7.holds Tryd.pinned (.plain (OpenSpec.upto crcLinearSpec)) crcLinearUptoCard

/-- THE SECOND FORM's CARD OF 'userplanelaw03.CrcResidue'. -/
def crcResidueUptoCard : Claim7 := { stood := { row := crcResidueUptoRow, standIns := [], harness := (true, "a776140dd8e0d05de4fe7783bdea91254fbd2c2f686a1ef57cfbd6963453be3d"), looks := false }, kinds := [], alts := [], laidByText := true, laidKinds := [.data], laidTests := true, laidLooks := .later }
def CrcResidueUptoCardSaid : Prop := Claim7.holds Tryd.pinned (.plain (OpenSpec.upto crcResidueSpec)) crcResidueUptoCard

/-- THE SECOND FORM's CARD OF 'userplanelaw03.CrcBursts'. -/
def crcBurstsUptoCard : Claim7 := { stood := { row := crcBurstsUptoRow, standIns := [], harness := (true, "a776140dd8e0d05de4fe7783bdea91254fbd2c2f686a1ef57cfbd6963453be3d"), looks := false }, kinds := [], alts := [], laidByText := true, laidKinds := [.data], laidTests := true, laidLooks := .later }
def CrcBurstsUptoCardSaid : Prop := Claim7.holds Tryd.pinned (.plain (OpenSpec.upto crcBurstsSpec)) crcBurstsUptoCard

/-- THE SECOND FORM's CARD OF 'userplanelaw03.CrcMasks'. -/
def crcMasksUptoCard : Claim7 := { stood := { row := crcMasksUptoRow, standIns := [], harness := (true, "a776140dd8e0d05de4fe7783bdea91254fbd2c2f686a1ef57cfbd6963453be3d"), looks := false }, kinds := [], alts := [], laidByText := true, laidKinds := [.data], laidTests := true, laidLooks := .later }
def CrcMasksUptoCardSaid : Prop := Claim7.holds Tryd.pinned (.plain (OpenSpec.upto crcMasksSpec)) crcMasksUptoCard

/-- THE SECOND FORM's CARD OF 'userplanelaw03.CrcOwn'. -/
def crcOwnUptoCard : Claim7 := { stood := { row := crcOwnUptoRow, standIns := [], harness := (true, "a776140dd8e0d05de4fe7783bdea91254fbd2c2f686a1ef57cfbd6963453be3d"), looks := false }, kinds := [], alts := [], laidByText := true, laidKinds := [.data], laidTests := true, laidLooks := .later }
def CrcOwnUptoCardSaid : Prop := Claim7.holds Tryd.pinned (.plain (OpenSpec.upto crcOwnSpec)) crcOwnUptoCard
end Rows
end Go.Proofs.YtekldonfmfnmpaaDoor
