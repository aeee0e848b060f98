/-
  DERIVED. GIVEN WITH THE SEED: THE CARDS: each row of YtmflbcfphlmfjaaGreatDoorRows.lean that lists a variable, with what it lists TIED to the program's text (the seventh form; the later family's looks); each row that meets fmt, with fmt's text TOLD by the authors' own Lean function (tested against real Go, not proved from fmt's source: count such statements apart). THE CARD IS WHAT COUNTS. Prove the row's statement (the work); the ties are given (YtmflbcfphlmfjaaGreatDoorTie.lean); close each card by the builder's one call (the guide's Derived/Test/ToyasCard.lean, 'card_holds'). Laid BY PROGRAM, IN A SANDBOX (cutbox-door.mjs). By AI agents, Wed Nov 11 2026. No macro, syntax, notation, axiom, sorry.
-/
import Derived.Test.YtmflbcfphlmfjaaGreatDoorRows
import GoSem.ClaimSeven
namespace Go.Proofs.YtmflbcfphlmfjaaGreatDoor
namespace Rows

/-- THE TIED CARD OF 'sleuthlaw01.LangSame'. -/
def langSameCard : Claim7 := { stood := { row := langSameRow, standIns := [], harness := (true, "d03e35d30854104cb52f878b6b15437dbe8b94125f23ef4081b9cb3d38ee6bbf"), looks := true }, kinds := [], alts := [], laidByText := true, laidKinds := [.data, .data, .data, .sentinel, .sentinel, .data], laidTests := true, laidLooks := .later }
def LangSameCardSaid : Prop := Claim7.holds Tryz.pinned (.plain (OpenSpec.ofChange langSameSpec)) langSameCard

/-- THE TIED CARD OF 'sleuthlaw03.RecordKnown'. -/
def recordKnownCard : Claim7 := { stood := { row := recordKnownRow, standIns := [], harness := (true, "d03e35d30854104cb52f878b6b15437dbe8b94125f23ef4081b9cb3d38ee6bbf"), looks := true }, kinds := [], alts := [], laidByText := true, laidKinds := [.data, .data, .data, .sentinel, .sentinel, .data], laidTests := true, laidLooks := .later }
def RecordKnownCardSaid : Prop := Claim7.holds Tryz.pinned (.plain (OpenSpec.ofChange recordKnownSpec)) recordKnownCard

/-- THE SECOND FORM's CARD OF 'sleuthlaw01.LangSame'. -/
def langSameUptoCard : Claim7 := { stood := { row := langSameUptoRow, standIns := [], harness := (true, "d03e35d30854104cb52f878b6b15437dbe8b94125f23ef4081b9cb3d38ee6bbf"), looks := true }, kinds := [], alts := [], laidByText := true, laidKinds := [.data, .data, .data, .sentinel, .sentinel, .data], laidTests := true, laidLooks := .later }
def LangSameUptoCardSaid : Prop := Claim7.holds Tryz.pinned (.plain (OpenSpec.upto langSameSpec)) langSameUptoCard

/-- THE SECOND FORM's CARD OF 'sleuthlaw03.RecordKnown'. -/
def recordKnownUptoCard : Claim7 := { stood := { row := recordKnownUptoRow, standIns := [], harness := (true, "d03e35d30854104cb52f878b6b15437dbe8b94125f23ef4081b9cb3d38ee6bbf"), looks := true }, kinds := [], alts := [], laidByText := true, laidKinds := [.data, .data, .data, .sentinel, .sentinel, .data], laidTests := true, laidLooks := .later }
def RecordKnownUptoCardSaid : Prop := Claim7.holds Tryz.pinned (.plain (OpenSpec.upto recordKnownSpec)) recordKnownUptoCard
end Rows
end Go.Proofs.YtmflbcfphlmfjaaGreatDoor
