/-
  DERIVED. GIVEN WITH THE SEED: THE CARDS: each row of YtmehfegfkjhdcaaDoorRows.lean that lists a variable, with what it lists TIED to the program's text (the seventh form; the later family's looks); each row that meets fmt, with fmt's text TOLD by the authors' own Lean function (tested against real Go, not proved from fmt's source: count such statements apart). THE CARD IS WHAT COUNTS. Prove the row's statement (the work); the ties are given (YtmehfegfkjhdcaaDoorTie.lean); close each card by the builder's one call (the guide's Derived/Test/ToyasCard.lean, 'card_holds'). Laid BY PROGRAM, IN A SANDBOX (cutbox-door.mjs). By AI agents, Wed Nov 11 2026. No macro, syntax, notation, axiom, sorry.
-/
import Derived.Test.YtmehfegfkjhdcaaDoorRows
import GoSem.ClaimSeven
namespace Go.Proofs.YtmehfegfkjhdcaaDoor
namespace Rows

/-- THE TIED CARD OF 'userplanelaw09.SubblockOrders'. -/
def subblockOrdersCard : Claim7 := { stood := { row := subblockOrdersRow, standIns := [], harness := (true, "4f1c8ed78a7b7b7561b2545a9adef5d55559c7a88ee2e5c53bf31800f86785d2"), looks := false }, kinds := [], alts := [], laidByText := true, laidKinds := [.data], laidTests := true, laidLooks := .later }
def SubblockOrdersCardSaid : Prop := Claim7.holds Tryd.pinned (.plain (OpenSpec.ofChange subblockOrdersSpec)) subblockOrdersCard

/-- THE TIED CARD OF 'userplanelaw09.SubblockOnce'. -/
def subblockOnceCard : Claim7 := { stood := { row := subblockOnceRow, standIns := [], harness := (true, "4f1c8ed78a7b7b7561b2545a9adef5d55559c7a88ee2e5c53bf31800f86785d2"), looks := false }, kinds := [], alts := [], laidByText := true, laidKinds := [.data], laidTests := true, laidLooks := .later }
def SubblockOnceCardSaid : Prop := Claim7.holds Tryd.pinned (.plain (OpenSpec.ofChange subblockOnceSpec)) subblockOnceCard

/-- THE TIED CARD OF 'userplanelaw09.SubblockColumns'. -/
def subblockColumnsCard : Claim7 := { stood := { row := subblockColumnsRow, standIns := [], harness := (true, "4f1c8ed78a7b7b7561b2545a9adef5d55559c7a88ee2e5c53bf31800f86785d2"), looks := false }, kinds := [], alts := [], laidByText := true, laidKinds := [.data], laidTests := true, laidLooks := .later }
def SubblockColumnsCardSaid : Prop := Claim7.holds Tryd.pinned (.plain (OpenSpec.ofChange subblockColumnsSpec)) subblockColumnsCard

/-- THE TIED CARD OF 'userplanelaw09.SubblockShifts'. -/
def subblockShiftsCard : Claim7 := { stood := { row := subblockShiftsRow, standIns := [], harness := (true, "4f1c8ed78a7b7b7561b2545a9adef5d55559c7a88ee2e5c53bf31800f86785d2"), looks := false }, kinds := [], alts := [], laidByText := true, laidKinds := [.data], laidTests := true, laidLooks := .later }
def SubblockShiftsCardSaid : Prop := Claim7.holds Tryd.pinned (.plain (OpenSpec.ofChange subblockShiftsSpec)) subblockShiftsCard

/-- THE TIED CARD OF 'userplanelaw09.SubblockInterleaves'. -/
def subblockInterleavesCard : Claim7 := { stood := { row := subblockInterleavesRow, standIns := [], harness := (true, "4f1c8ed78a7b7b7561b2545a9adef5d55559c7a88ee2e5c53bf31800f86785d2"), looks := false }, kinds := [], alts := [], laidByText := true, laidKinds := [.data], laidTests := true, laidLooks := .later }
def SubblockInterleavesCardSaid : Prop := Claim7.holds Tryd.pinned (.plain (OpenSpec.ofChange subblockInterleavesSpec)) subblockInterleavesCard

/-- THE TIED CARD OF 'userplanelaw09.SubblockBack'. -/
def subblockBackCard : Claim7 := { stood := { row := subblockBackRow, standIns := [], harness := (true, "4f1c8ed78a7b7b7561b2545a9adef5d55559c7a88ee2e5c53bf31800f86785d2"), looks := false }, kinds := [], alts := [], laidByText := true, laidKinds := [.data], laidTests := true, laidLooks := .later }
def SubblockBackCardSaid : Prop := Claim7.holds Tryd.pinned (.plain (OpenSpec.ofChange subblockBackSpec)) subblockBackCard

/-- THE TIED CARD OF 'userplanelaw09.SubblockAgain'. -/
def subblockAgainCard : Claim7 := { stood := { row := subblockAgainRow, standIns := [], harness := (true, "4f1c8ed78a7b7b7561b2545a9adef5d55559c7a88ee2e5c53bf31800f86785d2"), looks := false }, kinds := [], alts := [], laidByText := true, laidKinds := [.data], laidTests := true, laidLooks := .later }
def SubblockAgainCardSaid : Prop := Claim7.holds Tryd.pinned (.plain (OpenSpec.ofChange subblockAgainSpec)) subblockAgainCard

/-- THE TIED CARD OF 'userplanelaw09.SubblockOwn'. -/
def subblockOwnCard : Claim7 := { stood := { row := subblockOwnRow, standIns := [], harness := (true, "4f1c8ed78a7b7b7561b2545a9adef5d55559c7a88ee2e5c53bf31800f86785d2"), looks := false }, kinds := [], alts := [], laidByText := true, laidKinds := [.data], laidTests := true, laidLooks := .later }
def SubblockOwnCardSaid : Prop := Claim7.holds Tryd.pinned (.plain (OpenSpec.ofChange subblockOwnSpec)) subblockOwnCard

/-- THE SECOND FORM's CARD OF 'userplanelaw09.SubblockOrders'. -/
def subblockOrdersUptoCard : Claim7 := { stood := { row := subblockOrdersUptoRow, standIns := [], harness := (true, "4f1c8ed78a7b7b7561b2545a9adef5d55559c7a88ee2e5c53bf31800f86785d2"), looks := false }, kinds := [], alts := [], laidByText := true, laidKinds := [.data], laidTests := true, laidLooks := .later }
def SubblockOrdersUptoCardSaid : Prop := Claim7.holds Tryd.pinned (.plain (OpenSpec.upto subblockOrdersSpec)) subblockOrdersUptoCard

/-- THE SECOND FORM's CARD OF 'userplanelaw09.SubblockOnce'. -/
def subblockOnceUptoCard : Claim7 := { stood := { row := subblockOnceUptoRow, standIns := [], harness := (true, "4f1c8ed78a7b7b7561b2545a9adef5d55559c7a88ee2e5c53bf31800f86785d2"), looks := false }, kinds := [], alts := [], laidByText := true, laidKinds := [.data], laidTests := true, laidLooks := .later }
def SubblockOnceUptoCardSaid : Prop := Claim7.holds Tryd.pinned (.plain (OpenSpec.upto subblockOnceSpec)) subblockOnceUptoCard

/-- THE SECOND FORM's CARD OF 'userplanelaw09.SubblockColumns'. -/
def subblockColumnsUptoCard : Claim7 := { stood := { row := subblockColumnsUptoRow, standIns := [], harness := (true, "4f1c8ed78a7b7b7561b2545a9adef5d55559c7a88ee2e5c53bf31800f86785d2"), looks := false }, kinds := [], alts := [], laidByText := true, laidKinds := [.data], laidTests := true, laidLooks := .later }
def SubblockColumnsUptoCardSaid : Prop := Claim7.holds Tryd.pinned (.plain (OpenSpec.upto subblockColumnsSpec)) subblockColumnsUptoCard

/-- THE SECOND FORM's CARD OF 'userplanelaw09.SubblockShifts'. -/
def subblockShiftsUptoCard : Claim7 := { stood := { row := subblockShiftsUptoRow, standIns := [], harness := (true, "4f1c8ed78a7b7b7561b2545a9adef5d55559c7a88ee2e5c53bf31800f86785d2"), looks := false }, kinds := [], alts := [], laidByText := true, laidKinds := [.data], laidTests := true, laidLooks := .later }
def SubblockShiftsUptoCardSaid : Prop := Claim7.holds Tryd.pinned (.plain (OpenSpec.upto subblockShiftsSpec)) subblockShiftsUptoCard

/-- THE SECOND FORM's CARD OF 'userplanelaw09.SubblockInterleaves'. -/
def subblockInterleavesUptoCard : Claim7 := { stood := { row := subblockInterleavesUptoRow, standIns := [], harness := (true, "4f1c8ed78a7b7b7561b2545a9adef5d55559c7a88ee2e5c53bf31800f86785d2"), looks := false }, kinds := [], alts := [], laidByText := true, laidKinds := [.data], laidTests := true, laidLooks := .later }
def SubblockInterleavesUptoCardSaid : Prop := Claim7.holds Tryd.pinned (.plain (OpenSpec.upto subblockInterleavesSpec)) subblockInterleavesUptoCard

/-- THE SECOND FORM's CARD OF 'userplanelaw09.SubblockBack'. -/
def subblockBackUptoCard : Claim7 := { stood := { row := subblockBackUptoRow, standIns := [], harness := (true, "4f1c8ed78a7b7b7561b2545a9adef5d55559c7a88ee2e5c53bf31800f86785d2"), looks := false }, kinds := [], alts := [], laidByText := true, laidKinds := [.data], laidTests := true, laidLooks := .later }
def SubblockBackUptoCardSaid : Prop := Claim7.holds Tryd.pinned (.plain (OpenSpec.upto subblockBackSpec)) subblockBackUptoCard

/-- THE SECOND FORM's CARD OF 'userplanelaw09.SubblockAgain'. -/
def subblockAgainUptoCard : Claim7 := { stood := { row := subblockAgainUptoRow, standIns := [], harness := (true, "4f1c8ed78a7b7b7561b2545a9adef5d55559c7a88ee2e5c53bf31800f86785d2"), looks := false }, kinds := [], alts := [], laidByText := true, laidKinds := [.data], laidTests := true, laidLooks := .later }
def SubblockAgainUptoCardSaid : Prop := Claim7.holds Tryd.pinned (.plain (OpenSpec.upto subblockAgainSpec)) subblockAgainUptoCard

/-- THE SECOND FORM's CARD OF 'userplanelaw09.SubblockOwn'. -/
def subblockOwnUptoCard : Claim7 := { stood := { row := subblockOwnUptoRow, standIns := [], harness := (true, "4f1c8ed78a7b7b7561b2545a9adef5d55559c7a88ee2e5c53bf31800f86785d2"), looks := false }, kinds := [], alts := [], laidByText := true, laidKinds := [.data], laidTests := true, laidLooks := .later }
def SubblockOwnUptoCardSaid : Prop := Claim7.holds Tryd.pinned (.plain (OpenSpec.upto subblockOwnSpec)) subblockOwnUptoCard
end Rows
end Go.Proofs.YtmehfegfkjhdcaaDoor
