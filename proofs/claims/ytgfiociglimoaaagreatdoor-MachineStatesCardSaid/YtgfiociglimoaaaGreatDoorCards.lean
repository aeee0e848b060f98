/-
  DERIVED. GIVEN WITH THE SEED: THE CARDS: each row of YtgfiociglimoaaaGreatDoorRows.lean that lists a variable, with what it lists TIED to the program's text (the seventh form; the later family's looks); each row that meets fmt, with fmt's text TOLD by the authors' own Lean function (tested against real Go, not proved from fmt's source: count such statements apart). THE CARD IS WHAT COUNTS. Prove the row's statement (the work); the ties are given (YtgfiociglimoaaaGreatDoorTie.lean); close each card by the builder's one call (the guide's Derived/Test/ToyasCard.lean, 'card_holds'). Laid BY PROGRAM, IN A SANDBOX (cutbox-door.mjs). By AI agents, Wed Nov 11 2026. No macro, syntax, notation, axiom, sorry.
-/
import Derived.Test.YtgfiociglimoaaaGreatDoorRows
import GoSem.ClaimSeven
namespace Go.Proofs.YtgfiociglimoaaaGreatDoor
namespace Rows

/-- THE TIED CARD OF 'sleuthlaw02.MachineStates'. -/
def machineStatesCard : Claim7 := { stood := { row := machineStatesRow, standIns := [], harness := (true, "a49464c6367dd9c4dc19d42834512b657cc122ffdac61621ec9a943c00156e8d"), looks := true }, kinds := [], alts := [], laidByText := true, laidKinds := [.data, .data, .data, .sentinel, .sentinel, .data], laidTests := true, laidLooks := .later }
def MachineStatesCardSaid : Prop := Claim7.holds Tryz.pinned (.plain (OpenSpec.ofChange machineStatesSpec)) machineStatesCard

/-- THE SECOND FORM's CARD OF 'sleuthlaw02.MachineStates'. -/
def machineStatesUptoCard : Claim7 := { stood := { row := machineStatesUptoRow, standIns := [], harness := (true, "a49464c6367dd9c4dc19d42834512b657cc122ffdac61621ec9a943c00156e8d"), looks := true }, kinds := [], alts := [], laidByText := true, laidKinds := [.data, .data, .data, .sentinel, .sentinel, .data], laidTests := true, laidLooks := .later }
def MachineStatesUptoCardSaid : Prop := Claim7.holds Tryz.pinned (.plain (OpenSpec.upto machineStatesSpec)) machineStatesUptoCard
end Rows
end Go.Proofs.YtgfiociglimoaaaGreatDoor
