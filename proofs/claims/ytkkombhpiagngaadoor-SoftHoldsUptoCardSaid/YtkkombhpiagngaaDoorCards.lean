/-
  DERIVED. GIVEN WITH THE SEED: THE CARDS: each row of YtkkombhpiagngaaDoorRows.lean that lists a variable, with what it lists TIED to the program's text (the seventh form; the later family's looks); each row that meets fmt, with fmt's text TOLD by the authors' own Lean function (tested against real Go, not proved from fmt's source: count such statements apart). THE CARD IS WHAT COUNTS. Prove the row's statement (the work); the ties are given (YtkkombhpiagngaaDoorTie.lean); close each card by the builder's one call (the guide's Derived/Test/ToyasCard.lean, 'card_holds'). Laid BY PROGRAM, IN A SANDBOX (cutbox-door.mjs). By AI agents, Wed Nov 11 2026. No macro, syntax, notation, axiom, sorry.
-/
import Derived.Test.YtkkombhpiagngaaDoorRows
import GoSem.ClaimSeven
namespace Go.Proofs.YtkkombhpiagngaaDoor
namespace Rows

/-- THE TIED CARD OF 'userplanelaw11.SoftAdds'. -/
def softAddsCard : Claim7 := { stood := { row := softAddsRow, standIns := [], harness := (true, "1b4b9f018b7782bbc2b93476710316d2e4b2871bb9c522674d43fcd0bc5268fd"), looks := false }, kinds := [], alts := [], laidByText := true, laidKinds := [.data], laidTests := true, laidLooks := .later }
def SoftAddsCardSaid : Prop := Claim7.holds Tryd.pinned (.plain (OpenSpec.ofChange softAddsSpec)) softAddsCard

/-- THE TIED CARD OF 'userplanelaw11.SoftSums'. -/
def softSumsCard : Claim7 := { stood := { row := softSumsRow, standIns := [], harness := (true, "1b4b9f018b7782bbc2b93476710316d2e4b2871bb9c522674d43fcd0bc5268fd"), looks := false }, kinds := [], alts := [], laidByText := true, laidKinds := [.data], laidTests := true, laidLooks := .later }
def SoftSumsCardSaid : Prop := Claim7.holds Tryd.pinned (.plain (OpenSpec.ofChange softSumsSpec)) softSumsCard

/-- THE TIED CARD OF 'userplanelaw11.SoftScales'. -/
def softScalesCard : Claim7 := { stood := { row := softScalesRow, standIns := [], harness := (true, "1b4b9f018b7782bbc2b93476710316d2e4b2871bb9c522674d43fcd0bc5268fd"), looks := false }, kinds := [], alts := [], laidByText := true, laidKinds := [.data], laidTests := true, laidLooks := .later }
def SoftScalesCardSaid : Prop := Claim7.holds Tryd.pinned (.plain (OpenSpec.ofChange softScalesSpec)) softScalesCard

/-- THE TIED CARD OF 'userplanelaw11.SoftHards'. -/
def softHardsCard : Claim7 := { stood := { row := softHardsRow, standIns := [], harness := (true, "1b4b9f018b7782bbc2b93476710316d2e4b2871bb9c522674d43fcd0bc5268fd"), looks := false }, kinds := [], alts := [], laidByText := true, laidKinds := [.data], laidTests := true, laidLooks := .later }
def SoftHardsCardSaid : Prop := Claim7.holds Tryd.pinned (.plain (OpenSpec.ofChange softHardsSpec)) softHardsCard

/-- THE TIED CARD OF 'userplanelaw11.SoftCompares'. -/
def softComparesCard : Claim7 := { stood := { row := softComparesRow, standIns := [], harness := (true, "1b4b9f018b7782bbc2b93476710316d2e4b2871bb9c522674d43fcd0bc5268fd"), looks := false }, kinds := [], alts := [], laidByText := true, laidKinds := [.data], laidTests := true, laidLooks := .later }
def SoftComparesCardSaid : Prop := Claim7.holds Tryd.pinned (.plain (OpenSpec.ofChange softComparesSpec)) softComparesCard

/-- THE TIED CARD OF 'userplanelaw11.SoftSigns'. -/
def softSignsCard : Claim7 := { stood := { row := softSignsRow, standIns := [], harness := (true, "1b4b9f018b7782bbc2b93476710316d2e4b2871bb9c522674d43fcd0bc5268fd"), looks := false }, kinds := [], alts := [], laidByText := true, laidKinds := [.data], laidTests := true, laidLooks := .later }
def SoftSignsCardSaid : Prop := Claim7.holds Tryd.pinned (.plain (OpenSpec.ofChange softSignsSpec)) softSignsCard

/-- THE TIED CARD OF 'userplanelaw11.SoftHolds'. -/
def softHoldsCard : Claim7 := { stood := { row := softHoldsRow, standIns := [], harness := (true, "1b4b9f018b7782bbc2b93476710316d2e4b2871bb9c522674d43fcd0bc5268fd"), looks := false }, kinds := [], alts := [], laidByText := true, laidKinds := [.data], laidTests := true, laidLooks := .later }
def SoftHoldsCardSaid : Prop := Claim7.holds Tryd.pinned (.plain (OpenSpec.ofChange softHoldsSpec)) softHoldsCard

/-- THE SECOND FORM's CARD OF 'userplanelaw11.SoftAdds'. -/
def softAddsUptoCard : Claim7 := { stood := { row := softAddsUptoRow, standIns := [], harness := (true, "1b4b9f018b7782bbc2b93476710316d2e4b2871bb9c522674d43fcd0bc5268fd"), looks := false }, kinds := [], alts := [], laidByText := true, laidKinds := [.data], laidTests := true, laidLooks := .later }
def SoftAddsUptoCardSaid : Prop := Claim7.holds Tryd.pinned (.plain (OpenSpec.upto softAddsSpec)) softAddsUptoCard

/-- THE SECOND FORM's CARD OF 'userplanelaw11.SoftSums'. -/
def softSumsUptoCard : Claim7 := { stood := { row := softSumsUptoRow, standIns := [], harness := (true, "1b4b9f018b7782bbc2b93476710316d2e4b2871bb9c522674d43fcd0bc5268fd"), looks := false }, kinds := [], alts := [], laidByText := true, laidKinds := [.data], laidTests := true, laidLooks := .later }
def SoftSumsUptoCardSaid : Prop := Claim7.holds Tryd.pinned (.plain (OpenSpec.upto softSumsSpec)) softSumsUptoCard

/-- THE SECOND FORM's CARD OF 'userplanelaw11.SoftScales'. -/
def softScalesUptoCard : Claim7 := { stood := { row := softScalesUptoRow, standIns := [], harness := (true, "1b4b9f018b7782bbc2b93476710316d2e4b2871bb9c522674d43fcd0bc5268fd"), looks := false }, kinds := [], alts := [], laidByText := true, laidKinds := [.data], laidTests := true, laidLooks := .later }
def SoftScalesUptoCardSaid : Prop := Claim7.holds Tryd.pinned (.plain (OpenSpec.upto softScalesSpec)) softScalesUptoCard

/-- THE SECOND FORM's CARD OF 'userplanelaw11.SoftHards'. -/
def softHardsUptoCard : Claim7 := { stood := { row := softHardsUptoRow, standIns := [], harness := (true, "1b4b9f018b7782bbc2b93476710316d2e4b2871bb9c522674d43fcd0bc5268fd"), looks := false }, kinds := [], alts := [], laidByText := true, laidKinds := [.data], laidTests := true, laidLooks := .later }
def SoftHardsUptoCardSaid : Prop := Claim7.holds Tryd.pinned (.plain (OpenSpec.upto softHardsSpec)) softHardsUptoCard

/-- THE SECOND FORM's CARD OF 'userplanelaw11.SoftCompares'. -/
def softComparesUptoCard : Claim7 := { stood := { row := softComparesUptoRow, standIns := [], harness := (true, "1b4b9f018b7782bbc2b93476710316d2e4b2871bb9c522674d43fcd0bc5268fd"), looks := false }, kinds := [], alts := [], laidByText := true, laidKinds := [.data], laidTests := true, laidLooks := .later }
def SoftComparesUptoCardSaid : Prop := Claim7.holds Tryd.pinned (.plain (OpenSpec.upto softComparesSpec)) softComparesUptoCard

/-- THE SECOND FORM's CARD OF 'userplanelaw11.SoftSigns'. -/
def softSignsUptoCard : Claim7 := { stood := { row := softSignsUptoRow, standIns := [], harness := (true, "1b4b9f018b7782bbc2b93476710316d2e4b2871bb9c522674d43fcd0bc5268fd"), looks := false }, kinds := [], alts := [], laidByText := true, laidKinds := [.data], laidTests := true, laidLooks := .later }
def SoftSignsUptoCardSaid : Prop := Claim7.holds Tryd.pinned (.plain (OpenSpec.upto softSignsSpec)) softSignsUptoCard

/-- THE SECOND FORM's CARD OF 'userplanelaw11.SoftHolds'. -/
def softHoldsUptoCard : Claim7 := { stood := { row := softHoldsUptoRow, standIns := [], harness := (true, "1b4b9f018b7782bbc2b93476710316d2e4b2871bb9c522674d43fcd0bc5268fd"), looks := false }, kinds := [], alts := [], laidByText := true, laidKinds := [.data], laidTests := true, laidLooks := .later }
def SoftHoldsUptoCardSaid : Prop := Claim7.holds Tryd.pinned (.plain (OpenSpec.upto softHoldsSpec)) softHoldsUptoCard
end Rows
end Go.Proofs.YtkkombhpiagngaaDoor
