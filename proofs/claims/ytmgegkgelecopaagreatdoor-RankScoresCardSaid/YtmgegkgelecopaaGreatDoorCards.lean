/-
  DERIVED. GIVEN WITH THE SEED: THE CARDS: each row of YtmgegkgelecopaaGreatDoorRows.lean that lists a variable, with what it lists TIED to the program's text (the seventh form; the later family's looks); each row that meets fmt, with fmt's text TOLD by the authors' own Lean function (tested against real Go, not proved from fmt's source: count such statements apart). THE CARD IS WHAT COUNTS. Prove the row's statement (the work); the ties are given (YtmgegkgelecopaaGreatDoorTie.lean); close each card by the builder's one call (the guide's Derived/Test/ToyasCard.lean, 'card_holds'). Laid BY PROGRAM, IN A SANDBOX (cutbox-door.mjs). By AI agents, Wed Nov 11 2026. No macro, syntax, notation, axiom, sorry.
-/
import Derived.Test.YtmgegkgelecopaaGreatDoorRows
import GoSem.ClaimSeven
namespace Go.Proofs.YtmgegkgelecopaaGreatDoor
namespace Rows

/-- THE TIED CARD OF 'sleuthlaw07.RankFractions'. -/
def rankFractionsCard : Claim7 := { stood := { row := rankFractionsRow, standIns := [], harness := (true, "ac18fa01d2d3ea5168afc4b40e7237d22b5302ee80c7d3f31f074a3b346cd8d9"), looks := false }, kinds := [], alts := [], laidByText := true, laidKinds := [.data], laidTests := true, laidLooks := .later }
def RankFractionsCardSaid : Prop := Claim7.holds Tryz.pinned (.plain (OpenSpec.ofChange rankFractionsSpec)) rankFractionsCard

/-- THE TIED CARD OF 'sleuthlaw07.RankOrder'. -/
def rankOrderCard : Claim7 := { stood := { row := rankOrderRow, standIns := [], harness := (true, "ac18fa01d2d3ea5168afc4b40e7237d22b5302ee80c7d3f31f074a3b346cd8d9"), looks := false }, kinds := [], alts := [], laidByText := true, laidKinds := [.data], laidTests := true, laidLooks := .later }
def RankOrderCardSaid : Prop := Claim7.holds Tryz.pinned (.plain (OpenSpec.ofChange rankOrderSpec)) rankOrderCard

/-- THE TIED CARD OF 'sleuthlaw07.RankScores'. -/
def rankScoresCard : Claim7 := { stood := { row := rankScoresRow, standIns := [], harness := (true, "ac18fa01d2d3ea5168afc4b40e7237d22b5302ee80c7d3f31f074a3b346cd8d9"), looks := false }, kinds := [], alts := [], laidByText := true, laidKinds := [.data], laidTests := true, laidLooks := .later }
def RankScoresCardSaid : Prop := Claim7.holds Tryz.pinned (.plain (OpenSpec.ofChange rankScoresSpec)) rankScoresCard

/-- THE TIED CARD OF 'sleuthlaw07.RankMinimal'. -/
def rankMinimalCard : Claim7 := { stood := { row := rankMinimalRow, standIns := [], harness := (true, "ac18fa01d2d3ea5168afc4b40e7237d22b5302ee80c7d3f31f074a3b346cd8d9"), looks := false }, kinds := [], alts := [], laidByText := true, laidKinds := [.data], laidTests := true, laidLooks := .later }
def RankMinimalCardSaid : Prop := Claim7.holds Tryz.pinned (.plain (OpenSpec.ofChange rankMinimalSpec)) rankMinimalCard

/-- THE TIED CARD OF 'sleuthlaw07.RankSmallest'. -/
def rankSmallestCard : Claim7 := { stood := { row := rankSmallestRow, standIns := [], harness := (true, "ac18fa01d2d3ea5168afc4b40e7237d22b5302ee80c7d3f31f074a3b346cd8d9"), looks := false }, kinds := [], alts := [], laidByText := true, laidKinds := [.data], laidTests := true, laidLooks := .later }
def RankSmallestCardSaid : Prop := Claim7.holds Tryz.pinned (.plain (OpenSpec.ofChange rankSmallestSpec)) rankSmallestCard

/-- THE TIED CARD OF 'sleuthlaw07.RankAgree'. -/
def rankAgreeCard : Claim7 := { stood := { row := rankAgreeRow, standIns := [], harness := (true, "ac18fa01d2d3ea5168afc4b40e7237d22b5302ee80c7d3f31f074a3b346cd8d9"), looks := false }, kinds := [], alts := [], laidByText := true, laidKinds := [.data], laidTests := true, laidLooks := .later }
def RankAgreeCardSaid : Prop := Claim7.holds Tryz.pinned (.plain (OpenSpec.ofChange rankAgreeSpec)) rankAgreeCard

/-- THE SECOND FORM's CARD OF 'sleuthlaw07.RankFractions'. -/
def rankFractionsUptoCard : Claim7 := { stood := { row := rankFractionsUptoRow, standIns := [], harness := (true, "ac18fa01d2d3ea5168afc4b40e7237d22b5302ee80c7d3f31f074a3b346cd8d9"), looks := false }, kinds := [], alts := [], laidByText := true, laidKinds := [.data], laidTests := true, laidLooks := .later }
def RankFractionsUptoCardSaid : Prop := Claim7.holds Tryz.pinned (.plain (OpenSpec.upto rankFractionsSpec)) rankFractionsUptoCard

/-- THE SECOND FORM's CARD OF 'sleuthlaw07.RankOrder'. -/
def rankOrderUptoCard : Claim7 := { stood := { row := rankOrderUptoRow, standIns := [], harness := (true, "ac18fa01d2d3ea5168afc4b40e7237d22b5302ee80c7d3f31f074a3b346cd8d9"), looks := false }, kinds := [], alts := [], laidByText := true, laidKinds := [.data], laidTests := true, laidLooks := .later }
def RankOrderUptoCardSaid : Prop := Claim7.holds Tryz.pinned (.plain (OpenSpec.upto rankOrderSpec)) rankOrderUptoCard

/-- THE SECOND FORM's CARD OF 'sleuthlaw07.RankScores'. -/
def rankScoresUptoCard : Claim7 := { stood := { row := rankScoresUptoRow, standIns := [], harness := (true, "ac18fa01d2d3ea5168afc4b40e7237d22b5302ee80c7d3f31f074a3b346cd8d9"), looks := false }, kinds := [], alts := [], laidByText := true, laidKinds := [.data], laidTests := true, laidLooks := .later }
def RankScoresUptoCardSaid : Prop := Claim7.holds Tryz.pinned (.plain (OpenSpec.upto rankScoresSpec)) rankScoresUptoCard

/-- THE SECOND FORM's CARD OF 'sleuthlaw07.RankMinimal'. -/
def rankMinimalUptoCard : Claim7 := { stood := { row := rankMinimalUptoRow, standIns := [], harness := (true, "ac18fa01d2d3ea5168afc4b40e7237d22b5302ee80c7d3f31f074a3b346cd8d9"), looks := false }, kinds := [], alts := [], laidByText := true, laidKinds := [.data], laidTests := true, laidLooks := .later }
def RankMinimalUptoCardSaid : Prop := Claim7.holds Tryz.pinned (.plain (OpenSpec.upto rankMinimalSpec)) rankMinimalUptoCard

/-- THE SECOND FORM's CARD OF 'sleuthlaw07.RankSmallest'. -/
def rankSmallestUptoCard : Claim7 := { stood := { row := rankSmallestUptoRow, standIns := [], harness := (true, "ac18fa01d2d3ea5168afc4b40e7237d22b5302ee80c7d3f31f074a3b346cd8d9"), looks := false }, kinds := [], alts := [], laidByText := true, laidKinds := [.data], laidTests := true, laidLooks := .later }
def RankSmallestUptoCardSaid : Prop := Claim7.holds Tryz.pinned (.plain (OpenSpec.upto rankSmallestSpec)) rankSmallestUptoCard

/-- THE SECOND FORM's CARD OF 'sleuthlaw07.RankAgree'. -/
def rankAgreeUptoCard : Claim7 := { stood := { row := rankAgreeUptoRow, standIns := [], harness := (true, "ac18fa01d2d3ea5168afc4b40e7237d22b5302ee80c7d3f31f074a3b346cd8d9"), looks := false }, kinds := [], alts := [], laidByText := true, laidKinds := [.data], laidTests := true, laidLooks := .later }
def RankAgreeUptoCardSaid : Prop := Claim7.holds Tryz.pinned (.plain (OpenSpec.upto rankAgreeSpec)) rankAgreeUptoCard
end Rows
end Go.Proofs.YtmgegkgelecopaaGreatDoor
