/-
  PROVED: the law MachineNil returns true and leaves the world as it was. A machine that there is not, and one that no call made, answer nothing; the chapter's example is run to its end.
  CONDITIONS: those of the row: the listed package-level variables read as their text lays them (the card ties them to the program's text). The run is evaluated in the kernel, over an abstract heap, whatever the tape draws.
-/
import Derived.Test.YtkcjdmhcneapcaaGreatDoorNilD
import Derived.Test.YtkcjdmhcneapcaaGreatDoorNilB
namespace Go.Proofs.YtkcjdmhcneapcaaGreatDoor
theorem machineNil_card : Rows.MachineNilCardSaid := Nil.card Nil.run_nil
end Go.Proofs.YtkcjdmhcneapcaaGreatDoor
