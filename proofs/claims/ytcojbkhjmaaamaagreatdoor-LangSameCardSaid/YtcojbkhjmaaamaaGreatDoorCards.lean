/-
  DERIVED. GIVEN WITH THE SEED: THE CARDS: each row of YtcojbkhjmaaamaaGreatDoorRows.lean that lists a variable, with what it lists TIED to the program's text (the seventh form; the later family's looks); each row that meets fmt, with fmt's text TOLD by the authors' own Lean function (tested against real Go, not proved from fmt's source: count such statements apart). THE CARD IS WHAT COUNTS. Prove the row's statement (the work); the ties are given (YtcojbkhjmaaamaaGreatDoorTie.lean); close each card by the builder's one call (the guide's Derived/Test/ToyasCard.lean, 'card_holds'). Laid BY PROGRAM, IN A SANDBOX (cutbox-door.mjs). By AI agents, Wed Nov 11 2026. No macro, syntax, notation, axiom, sorry.
-/
import Derived.Test.YtcojbkhjmaaamaaGreatDoorRows
import GoSem.ClaimSeven
namespace Go.Proofs.YtcojbkhjmaaamaaGreatDoor
namespace Rows

/-- THE TIED CARD OF 'sleuthlaw01.LangSame'. -/
def langSameCard : Claim7 := { stood := { row := langSameRow, standIns := [], harness := (true, "b67a6787392ab6c53a05941193c35119235aed3174d2d083a5ea63ba44194c7c"), looks := true }, kinds := [], alts := [], laidByText := true, laidKinds := [.data, .data, .data, .sentinel, .sentinel, .data], laidTests := true, laidLooks := .later }
def LangSameCardSaid : Prop := Claim7.holds Tryz.pinned (.plain (OpenSpec.ofChange langSameSpec)) langSameCard

/-- THE TIED CARD OF 'sleuthlaw05.SliceKnown'. -/
def sliceKnownCard : Claim7 := { stood := { row := sliceKnownRow, standIns := [], harness := (true, "b67a6787392ab6c53a05941193c35119235aed3174d2d083a5ea63ba44194c7c"), looks := true }, kinds := [], alts := [], laidByText := true, laidKinds := [.data, .data, .data, .sentinel, .sentinel, .data], laidTests := true, laidLooks := .later }
def SliceKnownCardSaid : Prop := Claim7.holds Tryz.pinned (.plain (OpenSpec.ofChange sliceKnownSpec)) sliceKnownCard

/-- THE SECOND FORM's CARD OF 'sleuthlaw01.LangSame'. -/
def langSameUptoCard : Claim7 := { stood := { row := langSameUptoRow, standIns := [], harness := (true, "b67a6787392ab6c53a05941193c35119235aed3174d2d083a5ea63ba44194c7c"), looks := true }, kinds := [], alts := [], laidByText := true, laidKinds := [.data, .data, .data, .sentinel, .sentinel, .data], laidTests := true, laidLooks := .later }
def LangSameUptoCardSaid : Prop := Claim7.holds Tryz.pinned (.plain (OpenSpec.upto langSameSpec)) langSameUptoCard

/-- THE SECOND FORM's CARD OF 'sleuthlaw05.SliceKnown'. -/
def sliceKnownUptoCard : Claim7 := { stood := { row := sliceKnownUptoRow, standIns := [], harness := (true, "b67a6787392ab6c53a05941193c35119235aed3174d2d083a5ea63ba44194c7c"), looks := true }, kinds := [], alts := [], laidByText := true, laidKinds := [.data, .data, .data, .sentinel, .sentinel, .data], laidTests := true, laidLooks := .later }
def SliceKnownUptoCardSaid : Prop := Claim7.holds Tryz.pinned (.plain (OpenSpec.upto sliceKnownSpec)) sliceKnownUptoCard
end Rows
end Go.Proofs.YtcojbkhjmaaamaaGreatDoor
