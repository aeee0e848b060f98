/-
  DERIVED. GIVEN WITH THE SEED: THE CARDS: each row of YtobacidddkocfaaGreatDoorRows.lean that lists a variable, with what it lists TIED to the program's text (the seventh form; the later family's looks); each row that meets fmt, with fmt's text TOLD by the authors' own Lean function (tested against real Go, not proved from fmt's source: count such statements apart). THE CARD IS WHAT COUNTS. Prove the row's statement (the work); the ties are given (YtobacidddkocfaaGreatDoorTie.lean); close each card by the builder's one call (the guide's Derived/Test/ToyasCard.lean, 'card_holds'). Laid BY PROGRAM, IN A SANDBOX (cutbox-door.mjs). By AI agents, Wed Nov 11 2026. No macro, syntax, notation, axiom, sorry.
-/
import Derived.Test.YtobacidddkocfaaGreatDoorRows
import GoSem.ClaimSeven
namespace Go.Proofs.YtobacidddkocfaaGreatDoor
namespace Rows

/-- THE TIED CARD OF 'sleuthlaw01.LangStrings'. -/
def langStringsCard : Claim7 := { stood := { row := langStringsRow, standIns := [], harness := (true, "68bfa8f67a5bcc22ab838f92d8376b690c9f3786d8b0f9cd1680a89e888f356b"), looks := true }, kinds := [], alts := [], laidByText := true, laidKinds := [.data, .data, .data, .sentinel, .sentinel, .data], laidTests := true, laidLooks := .later }
def LangStringsCardSaid : Prop := Claim7.holds Tryz.pinned (.plain (OpenSpec.ofChange langStringsSpec)) langStringsCard

/-- THE TIED CARD OF 'sleuthlaw01.LangKnown'. -/
def langKnownCard : Claim7 := { stood := { row := langKnownRow, standIns := [], harness := (true, "68bfa8f67a5bcc22ab838f92d8376b690c9f3786d8b0f9cd1680a89e888f356b"), looks := true }, kinds := [], alts := [], laidByText := true, laidKinds := [.data, .data, .data, .sentinel, .sentinel, .data], laidTests := true, laidLooks := .later }
def LangKnownCardSaid : Prop := Claim7.holds Tryz.pinned (.plain (OpenSpec.ofChange langKnownSpec)) langKnownCard

/-- THE SECOND FORM's CARD OF 'sleuthlaw01.LangStrings'. -/
def langStringsUptoCard : Claim7 := { stood := { row := langStringsUptoRow, standIns := [], harness := (true, "68bfa8f67a5bcc22ab838f92d8376b690c9f3786d8b0f9cd1680a89e888f356b"), looks := true }, kinds := [], alts := [], laidByText := true, laidKinds := [.data, .data, .data, .sentinel, .sentinel, .data], laidTests := true, laidLooks := .later }
def LangStringsUptoCardSaid : Prop := Claim7.holds Tryz.pinned (.plain (OpenSpec.upto langStringsSpec)) langStringsUptoCard

/-- THE SECOND FORM's CARD OF 'sleuthlaw01.LangKnown'. -/
def langKnownUptoCard : Claim7 := { stood := { row := langKnownUptoRow, standIns := [], harness := (true, "68bfa8f67a5bcc22ab838f92d8376b690c9f3786d8b0f9cd1680a89e888f356b"), looks := true }, kinds := [], alts := [], laidByText := true, laidKinds := [.data, .data, .data, .sentinel, .sentinel, .data], laidTests := true, laidLooks := .later }
def LangKnownUptoCardSaid : Prop := Claim7.holds Tryz.pinned (.plain (OpenSpec.upto langKnownSpec)) langKnownUptoCard
end Rows
end Go.Proofs.YtobacidddkocfaaGreatDoor
