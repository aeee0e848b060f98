/-
  PROVED: the law MachineKnown returns true and leaves the world as it was.
  CONDITIONS: those of the row: the listed package-level variables read as their text lays them (the card ties them to the program's text). The run is evaluated in the kernel, part by part, over an abstract heap, whatever the tape draws.
-/
import Derived.Test.YtcgbbglhbbhpdaaGreatDoorLvMachineKnown
import Derived.Test.YtcgbbglhbbhpdaaGreatDoorPtmk
namespace Go.Proofs.YtcgbbglhbbhpdaaGreatDoor
theorem machineKnown_card : Rows.MachineKnownCardSaid := Lv.MachineKnown.card (m := 137) (fun _ => by kernel_rfl) Lv.mklives
end Go.Proofs.YtcgbbglhbbhpdaaGreatDoor
