/-
  DERIVED. GIVEN WITH THE SEED: THE CARDS: each row of YtdfjjmibhnniiaaGreatDoorRows.lean that lists a variable, with what it lists TIED to the program's text (the seventh form; the later family's looks); each row that meets fmt, with fmt's text TOLD by the authors' own Lean function (tested against real Go, not proved from fmt's source: count such statements apart). THE CARD IS WHAT COUNTS. Prove the row's statement (the work); the ties are given (YtdfjjmibhnniiaaGreatDoorTie.lean); close each card by the builder's one call (the guide's Derived/Test/ToyasCard.lean, 'card_holds'). Laid BY PROGRAM, IN A SANDBOX (cutbox-door.mjs). By AI agents, Wed Nov 11 2026. No macro, syntax, notation, axiom, sorry.
-/
import Derived.Test.YtdfjjmibhnniiaaGreatDoorRows
import GoSem.ClaimSeven
namespace Go.Proofs.YtdfjjmibhnniiaaGreatDoor
namespace Rows

/-- THE TIED CARD OF 'sleuthlaw08.LearnClaims'. -/
def learnClaimsCard : Claim7 := { stood := { row := learnClaimsRow, standIns := [], harness := (true, "985a70b0d5392b9e5d3cb2c3f6e6e40e8d282255f65d0c67925a5ea5f65b4986"), looks := true }, kinds := [], alts := [], laidByText := true, laidKinds := [.data, .data, .data, .data, .sentinel, .sentinel, .pinned], laidTests := true, laidLooks := .later }
def LearnClaimsCardSaid : Prop := Claim7.holds Tryz.pinned (.plain (OpenSpec.ofChange learnClaimsSpec)) learnClaimsCard

/-- THE TIED CARD OF 'sleuthlaw08.LearnTexts'. -/
def learnTextsCard : Claim7 := { stood := { row := learnTextsRow, standIns := [], harness := (true, "985a70b0d5392b9e5d3cb2c3f6e6e40e8d282255f65d0c67925a5ea5f65b4986"), looks := true }, kinds := [], alts := [], laidByText := true, laidKinds := [.data, .data, .data, .data, .sentinel, .sentinel, .pinned], laidTests := true, laidLooks := .later }
def LearnTextsCardSaid : Prop := Claim7.holds Tryz.pinned (.plain (OpenSpec.ofChange learnTextsSpec)) learnTextsCard

/-- THE TIED CARD OF 'sleuthlaw08.LearnBack'. -/
def learnBackCard : Claim7 := { stood := { row := learnBackRow, standIns := [], harness := (true, "985a70b0d5392b9e5d3cb2c3f6e6e40e8d282255f65d0c67925a5ea5f65b4986"), looks := true }, kinds := [], alts := [], laidByText := true, laidKinds := [.data, .data, .data, .data, .sentinel, .sentinel, .pinned], laidTests := true, laidLooks := .later }
def LearnBackCardSaid : Prop := Claim7.holds Tryz.pinned (.plain (OpenSpec.ofChange learnBackSpec)) learnBackCard

/-- THE TIED CARD OF 'sleuthlaw08.LearnMerges'. -/
def learnMergesCard : Claim7 := { stood := { row := learnMergesRow, standIns := [], harness := (true, "985a70b0d5392b9e5d3cb2c3f6e6e40e8d282255f65d0c67925a5ea5f65b4986"), looks := true }, kinds := [], alts := [], laidByText := true, laidKinds := [.data, .data, .data, .data, .sentinel, .sentinel, .pinned], laidTests := true, laidLooks := .later }
def LearnMergesCardSaid : Prop := Claim7.holds Tryz.pinned (.plain (OpenSpec.ofChange learnMergesSpec)) learnMergesCard

/-- THE TIED CARD OF 'sleuthlaw08.LearnTrue'. -/
def learnTrueCard : Claim7 := { stood := { row := learnTrueRow, standIns := [], harness := (true, "985a70b0d5392b9e5d3cb2c3f6e6e40e8d282255f65d0c67925a5ea5f65b4986"), looks := true }, kinds := [], alts := [], laidByText := true, laidKinds := [.data, .data, .data, .data, .sentinel, .sentinel, .pinned], laidTests := true, laidLooks := .later }
def LearnTrueCardSaid : Prop := Claim7.holds Tryz.pinned (.plain (OpenSpec.ofChange learnTrueSpec)) learnTrueCard

/-- THE SECOND FORM's CARD OF 'sleuthlaw08.LearnClaims'. -/
def learnClaimsUptoCard : Claim7 := { stood := { row := learnClaimsUptoRow, standIns := [], harness := (true, "985a70b0d5392b9e5d3cb2c3f6e6e40e8d282255f65d0c67925a5ea5f65b4986"), looks := true }, kinds := [], alts := [], laidByText := true, laidKinds := [.data, .data, .data, .data, .sentinel, .sentinel, .pinned], laidTests := true, laidLooks := .later }
def LearnClaimsUptoCardSaid : Prop := Claim7.holds Tryz.pinned (.plain (OpenSpec.upto learnClaimsSpec)) learnClaimsUptoCard

/-- THE SECOND FORM's CARD OF 'sleuthlaw08.LearnTexts'. -/
def learnTextsUptoCard : Claim7 := { stood := { row := learnTextsUptoRow, standIns := [], harness := (true, "985a70b0d5392b9e5d3cb2c3f6e6e40e8d282255f65d0c67925a5ea5f65b4986"), looks := true }, kinds := [], alts := [], laidByText := true, laidKinds := [.data, .data, .data, .data, .sentinel, .sentinel, .pinned], laidTests := true, laidLooks := .later }
def LearnTextsUptoCardSaid : Prop := Claim7.holds Tryz.pinned (.plain (OpenSpec.upto learnTextsSpec)) learnTextsUptoCard

/-- THE SECOND FORM's CARD OF 'sleuthlaw08.LearnBack'. -/
def learnBackUptoCard : Claim7 := { stood := { row := learnBackUptoRow, standIns := [], harness := (true, "985a70b0d5392b9e5d3cb2c3f6e6e40e8d282255f65d0c67925a5ea5f65b4986"), looks := true }, kinds := [], alts := [], laidByText := true, laidKinds := [.data, .data, .data, .data, .sentinel, .sentinel, .pinned], laidTests := true, laidLooks := .later }
def LearnBackUptoCardSaid : Prop := Claim7.holds Tryz.pinned (.plain (OpenSpec.upto learnBackSpec)) learnBackUptoCard

/-- THE SECOND FORM's CARD OF 'sleuthlaw08.LearnMerges'. -/
def learnMergesUptoCard : Claim7 := { stood := { row := learnMergesUptoRow, standIns := [], harness := (true, "985a70b0d5392b9e5d3cb2c3f6e6e40e8d282255f65d0c67925a5ea5f65b4986"), looks := true }, kinds := [], alts := [], laidByText := true, laidKinds := [.data, .data, .data, .data, .sentinel, .sentinel, .pinned], laidTests := true, laidLooks := .later }
def LearnMergesUptoCardSaid : Prop := Claim7.holds Tryz.pinned (.plain (OpenSpec.upto learnMergesSpec)) learnMergesUptoCard

/-- THE SECOND FORM's CARD OF 'sleuthlaw08.LearnTrue'. -/
def learnTrueUptoCard : Claim7 := { stood := { row := learnTrueUptoRow, standIns := [], harness := (true, "985a70b0d5392b9e5d3cb2c3f6e6e40e8d282255f65d0c67925a5ea5f65b4986"), looks := true }, kinds := [], alts := [], laidByText := true, laidKinds := [.data, .data, .data, .data, .sentinel, .sentinel, .pinned], laidTests := true, laidLooks := .later }
def LearnTrueUptoCardSaid : Prop := Claim7.holds Tryz.pinned (.plain (OpenSpec.upto learnTrueSpec)) learnTrueUptoCard
end Rows
end Go.Proofs.YtdfjjmibhnniiaaGreatDoor
