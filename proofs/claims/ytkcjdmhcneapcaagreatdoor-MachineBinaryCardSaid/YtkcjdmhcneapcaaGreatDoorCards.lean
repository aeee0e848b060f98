/-
  DERIVED. GIVEN WITH THE SEED: THE CARDS: each row of YtkcjdmhcneapcaaGreatDoorRows.lean that lists a variable, with what it lists TIED to the program's text (the seventh form; the later family's looks); each row that meets fmt, with fmt's text TOLD by the authors' own Lean function (tested against real Go, not proved from fmt's source: count such statements apart). THE CARD IS WHAT COUNTS. Prove the row's statement (the work); the ties are given (YtkcjdmhcneapcaaGreatDoorTie.lean); close each card by the builder's one call (the guide's Derived/Test/ToyasCard.lean, 'card_holds'). Laid BY PROGRAM, IN A SANDBOX (cutbox-door.mjs). By AI agents, Wed Nov 11 2026. No macro, syntax, notation, axiom, sorry.
-/
import Derived.Test.YtkcjdmhcneapcaaGreatDoorRows
import GoSem.ClaimSeven
namespace Go.Proofs.YtkcjdmhcneapcaaGreatDoor
namespace Rows

/-- THE TIED CARD OF 'sleuthlaw02.MachineBinary'. -/
def machineBinaryCard : Claim7 := { stood := { row := machineBinaryRow, standIns := [], harness := (true, "147b914150e281d7d020a176304e5af7cf533c1e6504c96f1f8c97eb1cfef98e"), looks := true }, kinds := [], alts := [], laidByText := true, laidKinds := [.data, .data, .data, .sentinel, .sentinel, .data], laidTests := true, laidLooks := .later }
def MachineBinaryCardSaid : Prop := Claim7.holds Tryz.pinned (.plain (OpenSpec.ofChange machineBinarySpec)) machineBinaryCard

/-- THE TIED CARD OF 'sleuthlaw02.MachineNil'. -/
def machineNilCard : Claim7 := { stood := { row := machineNilRow, standIns := [], harness := (true, "147b914150e281d7d020a176304e5af7cf533c1e6504c96f1f8c97eb1cfef98e"), looks := true }, kinds := [], alts := [], laidByText := true, laidKinds := [.data, .data, .data, .sentinel, .sentinel, .data], laidTests := true, laidLooks := .later }
def MachineNilCardSaid : Prop := Claim7.holds Tryz.pinned (.plain (OpenSpec.ofChange machineNilSpec)) machineNilCard

/-- THE SECOND FORM's CARD OF 'sleuthlaw02.MachineBinary'. -/
def machineBinaryUptoCard : Claim7 := { stood := { row := machineBinaryUptoRow, standIns := [], harness := (true, "147b914150e281d7d020a176304e5af7cf533c1e6504c96f1f8c97eb1cfef98e"), looks := true }, kinds := [], alts := [], laidByText := true, laidKinds := [.data, .data, .data, .sentinel, .sentinel, .data], laidTests := true, laidLooks := .later }
def MachineBinaryUptoCardSaid : Prop := Claim7.holds Tryz.pinned (.plain (OpenSpec.upto machineBinarySpec)) machineBinaryUptoCard

/-- THE SECOND FORM's CARD OF 'sleuthlaw02.MachineNil'. -/
def machineNilUptoCard : Claim7 := { stood := { row := machineNilUptoRow, standIns := [], harness := (true, "147b914150e281d7d020a176304e5af7cf533c1e6504c96f1f8c97eb1cfef98e"), looks := true }, kinds := [], alts := [], laidByText := true, laidKinds := [.data, .data, .data, .sentinel, .sentinel, .data], laidTests := true, laidLooks := .later }
def MachineNilUptoCardSaid : Prop := Claim7.holds Tryz.pinned (.plain (OpenSpec.upto machineNilSpec)) machineNilUptoCard
end Rows
end Go.Proofs.YtkcjdmhcneapcaaGreatDoor
