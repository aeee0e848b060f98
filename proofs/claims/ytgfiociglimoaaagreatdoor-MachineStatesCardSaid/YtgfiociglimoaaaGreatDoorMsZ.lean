/-
  PROVED: the law MachineStates returns true for any two states, and leaves them and the world as they were: machine.Bytes and machine.Sum answer what the specification's own functions answer, machine.Same answers whether the two states' bytes are the same, and a copy of a state is the same as the state.
  CONDITIONS: those of the row: the listed package-level variables read as their text lays them (the card ties them to the program's text). The chapter's example at its end is evaluated in the kernel, part by part, over an abstract heap, whatever the tape draws.
-/
import Derived.Test.YtgfiociglimoaaaGreatDoorMsY
import Derived.Test.YtgfiociglimoaaaGreatDoorPtli
namespace Go.Proofs.YtgfiociglimoaaaGreatDoor
theorem machineStates_card : Rows.MachineStatesCardSaid := Ms.card (m := 40) (fun _ => by kernel_rfl) Lv.lilives
end Go.Proofs.YtgfiociglimoaaaGreatDoor
