/-
  PROVED: the law TraceNil returns true and leaves the world as it was.
  CONDITIONS: those of the row: the listed package-level variables read as their text lays them (the card ties them to the program's text). The run is evaluated in the kernel, part by part, over an abstract heap, whatever the tape draws.
-/
import Derived.Test.YtheacnllpeiidaaGreatDoorLvTraceNil
import Derived.Test.YtheacnllpeiidaaGreatDoorPttn
namespace Go.Proofs.YtheacnllpeiidaaGreatDoor
theorem traceNil_card : Rows.TraceNilCardSaid := Lv.TraceNil.card (m := 11) (fun _ => by kernel_rfl) Lv.tnlives
end Go.Proofs.YtheacnllpeiidaaGreatDoor
