/-
  PROVED: the law TraceKnown returns true and leaves the world as it was.
  CONDITIONS: those of the row: the listed package-level variables read as their text lays them (the card ties them to the program's text). The run is evaluated in the kernel, part by part, over an abstract heap, whatever the tape draws.
-/
import Derived.Test.YtkkhpackddlmpaaGreatDoorLvTraceKnown
import Derived.Test.YtkkhpackddlmpaaGreatDoorPttk
namespace Go.Proofs.YtkkhpackddlmpaaGreatDoor
theorem traceKnown_card : Rows.TraceKnownCardSaid := Lv.TraceKnown.card (m := 210) (fun _ => by kernel_rfl) Lv.tklives
end Go.Proofs.YtkkhpackddlmpaaGreatDoor
