/-
  DERIVED. GIVEN WITH THE SEED: THE CARDS: each row of YtkdodmjhpkfhnaaDoorRows.lean that lists a variable, with what it lists TIED to the program's text (the seventh form; the later family's looks); each row that meets fmt, with fmt's text TOLD by the authors' own Lean function (tested against real Go, not proved from fmt's source: count such statements apart). THE CARD IS WHAT COUNTS. Prove the row's statement (the work); the ties are given (YtkdodmjhpkfhnaaDoorTie.lean); close each card by the builder's one call (the guide's Derived/Test/ToyasCard.lean, 'card_holds'). Laid BY PROGRAM, IN A SANDBOX (cutbox-door.mjs). By AI agents, Wed Nov 11 2026. No macro, syntax, notation, axiom, sorry.
-/
import Derived.Test.YtkdodmjhpkfhnaaDoorRows
import GoSem.ClaimSeven
namespace Go.Proofs.YtkdodmjhpkfhnaaDoor
namespace Rows

/-- THE TIED CARD OF 'userplanelaw05.SegmentSizes'. -/
def segmentSizesCard : Claim7 := { stood := { row := segmentSizesRow, standIns := [], harness := (true, "e62518669eaa6f434e6b8d8701680aaa43af580dd6d0dbcc0b15599c622b8f97"), looks := true }, kinds := [], alts := [], laidByText := true, laidKinds := [.data, .data], laidTests := true, laidLooks := .later }
def SegmentSizesCardSaid : Prop := Claim7.holds Tryd.pinned (.plain (OpenSpec.ofChange segmentSizesSpec)) segmentSizesCard

/-- THE TIED CARD OF 'userplanelaw05.SegmentPlans'. -/
def segmentPlansCard : Claim7 := { stood := { row := segmentPlansRow, standIns := [], harness := (true, "e62518669eaa6f434e6b8d8701680aaa43af580dd6d0dbcc0b15599c622b8f97"), looks := true }, kinds := [], alts := [], laidByText := true, laidKinds := [.data, .data], laidTests := true, laidLooks := .later }
def SegmentPlansCardSaid : Prop := Claim7.holds Tryd.pinned (.plain (OpenSpec.ofChange segmentPlansSpec)) segmentPlansCard

/-- THE TIED CARD OF 'userplanelaw05.SegmentEach'. -/
def segmentEachCard : Claim7 := { stood := { row := segmentEachRow, standIns := [], harness := (true, "e62518669eaa6f434e6b8d8701680aaa43af580dd6d0dbcc0b15599c622b8f97"), looks := true }, kinds := [], alts := [], laidByText := true, laidKinds := [.data, .data], laidTests := true, laidLooks := .later }
def SegmentEachCardSaid : Prop := Claim7.holds Tryd.pinned (.plain (OpenSpec.ofChange segmentEachSpec)) segmentEachCard

/-- THE TIED CARD OF 'userplanelaw05.SegmentSplits'. -/
def segmentSplitsCard : Claim7 := { stood := { row := segmentSplitsRow, standIns := [], harness := (true, "e62518669eaa6f434e6b8d8701680aaa43af580dd6d0dbcc0b15599c622b8f97"), looks := true }, kinds := [], alts := [], laidByText := true, laidKinds := [.data, .data], laidTests := true, laidLooks := .later }
def SegmentSplitsCardSaid : Prop := Claim7.holds Tryd.pinned (.plain (OpenSpec.ofChange segmentSplitsSpec)) segmentSplitsCard

/-- THE TIED CARD OF 'userplanelaw05.SegmentJoins'. -/
def segmentJoinsCard : Claim7 := { stood := { row := segmentJoinsRow, standIns := [], harness := (true, "e62518669eaa6f434e6b8d8701680aaa43af580dd6d0dbcc0b15599c622b8f97"), looks := true }, kinds := [], alts := [], laidByText := true, laidKinds := [.data, .data], laidTests := true, laidLooks := .later }
def SegmentJoinsCardSaid : Prop := Claim7.holds Tryd.pinned (.plain (OpenSpec.ofChange segmentJoinsSpec)) segmentJoinsCard

/-- THE TIED CARD OF 'userplanelaw05.SegmentBounds'. -/
def segmentBoundsCard : Claim7 := { stood := { row := segmentBoundsRow, standIns := [], harness := (true, "e62518669eaa6f434e6b8d8701680aaa43af580dd6d0dbcc0b15599c622b8f97"), looks := true }, kinds := [], alts := [], laidByText := true, laidKinds := [.data, .data], laidTests := true, laidLooks := .later }
def SegmentBoundsCardSaid : Prop := Claim7.holds Tryd.pinned (.plain (OpenSpec.ofChange segmentBoundsSpec)) segmentBoundsCard

/-- THE TIED CARD OF 'userplanelaw05.SegmentHolds'. -/
def segmentHoldsCard : Claim7 := { stood := { row := segmentHoldsRow, standIns := [], harness := (true, "e62518669eaa6f434e6b8d8701680aaa43af580dd6d0dbcc0b15599c622b8f97"), looks := true }, kinds := [], alts := [], laidByText := true, laidKinds := [.data, .data], laidTests := true, laidLooks := .later }
def SegmentHoldsCardSaid : Prop := Claim7.holds Tryd.pinned (.plain (OpenSpec.ofChange segmentHoldsSpec)) segmentHoldsCard

/-- THE SECOND FORM's CARD OF 'userplanelaw05.SegmentSizes'. -/
def segmentSizesUptoCard : Claim7 := { stood := { row := segmentSizesUptoRow, standIns := [], harness := (true, "e62518669eaa6f434e6b8d8701680aaa43af580dd6d0dbcc0b15599c622b8f97"), looks := true }, kinds := [], alts := [], laidByText := true, laidKinds := [.data, .data], laidTests := true, laidLooks := .later }
def SegmentSizesUptoCardSaid : Prop := Claim7.holds Tryd.pinned (.plain (OpenSpec.upto segmentSizesSpec)) segmentSizesUptoCard

/-- THE SECOND FORM's CARD OF 'userplanelaw05.SegmentPlans'. -/
def segmentPlansUptoCard : Claim7 := { stood := { row := segmentPlansUptoRow, standIns := [], harness := (true, "e62518669eaa6f434e6b8d8701680aaa43af580dd6d0dbcc0b15599c622b8f97"), looks := true }, kinds := [], alts := [], laidByText := true, laidKinds := [.data, .data], laidTests := true, laidLooks := .later }
def SegmentPlansUptoCardSaid : Prop := Claim7.holds Tryd.pinned (.plain (OpenSpec.upto segmentPlansSpec)) segmentPlansUptoCard

/-- THE SECOND FORM's CARD OF 'userplanelaw05.SegmentEach'. -/
def segmentEachUptoCard : Claim7 := { stood := { row := segmentEachUptoRow, standIns := [], harness := (true, "e62518669eaa6f434e6b8d8701680aaa43af580dd6d0dbcc0b15599c622b8f97"), looks := true }, kinds := [], alts := [], laidByText := true, laidKinds := [.data, .data], laidTests := true, laidLooks := .later }
def SegmentEachUptoCardSaid : Prop := Claim7.holds Tryd.pinned (.plain (OpenSpec.upto segmentEachSpec)) segmentEachUptoCard

/-- THE SECOND FORM's CARD OF 'userplanelaw05.SegmentSplits'. -/
def segmentSplitsUptoCard : Claim7 := { stood := { row := segmentSplitsUptoRow, standIns := [], harness := (true, "e62518669eaa6f434e6b8d8701680aaa43af580dd6d0dbcc0b15599c622b8f97"), looks := true }, kinds := [], alts := [], laidByText := true, laidKinds := [.data, .data], laidTests := true, laidLooks := .later }
def SegmentSplitsUptoCardSaid : Prop := Claim7.holds Tryd.pinned (.plain (OpenSpec.upto segmentSplitsSpec)) segmentSplitsUptoCard

/-- THE SECOND FORM's CARD OF 'userplanelaw05.SegmentJoins'. -/
def segmentJoinsUptoCard : Claim7 := { stood := { row := segmentJoinsUptoRow, standIns := [], harness := (true, "e62518669eaa6f434e6b8d8701680aaa43af580dd6d0dbcc0b15599c622b8f97"), looks := true }, kinds := [], alts := [], laidByText := true, laidKinds := [.data, .data], laidTests := true, laidLooks := .later }
def SegmentJoinsUptoCardSaid : Prop := Claim7.holds Tryd.pinned (.plain (OpenSpec.upto segmentJoinsSpec)) segmentJoinsUptoCard

/-- THE SECOND FORM's CARD OF 'userplanelaw05.SegmentBounds'. -/
def segmentBoundsUptoCard : Claim7 := { stood := { row := segmentBoundsUptoRow, standIns := [], harness := (true, "e62518669eaa6f434e6b8d8701680aaa43af580dd6d0dbcc0b15599c622b8f97"), looks := true }, kinds := [], alts := [], laidByText := true, laidKinds := [.data, .data], laidTests := true, laidLooks := .later }
def SegmentBoundsUptoCardSaid : Prop := Claim7.holds Tryd.pinned (.plain (OpenSpec.upto segmentBoundsSpec)) segmentBoundsUptoCard

/-- THE SECOND FORM's CARD OF 'userplanelaw05.SegmentHolds'. -/
def segmentHoldsUptoCard : Claim7 := { stood := { row := segmentHoldsUptoRow, standIns := [], harness := (true, "e62518669eaa6f434e6b8d8701680aaa43af580dd6d0dbcc0b15599c622b8f97"), looks := true }, kinds := [], alts := [], laidByText := true, laidKinds := [.data, .data], laidTests := true, laidLooks := .later }
def SegmentHoldsUptoCardSaid : Prop := Claim7.holds Tryd.pinned (.plain (OpenSpec.upto segmentHoldsSpec)) segmentHoldsUptoCard
end Rows
end Go.Proofs.YtkdodmjhpkfhnaaDoor
