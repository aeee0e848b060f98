/-
  PROVED: the law RecordKnown returns true and leaves the world as it was.
  CONDITIONS: those of the row: the listed package-level variables read as their text lays them (the card ties them to the program's text). The run is evaluated in the kernel, part by part, over an abstract heap, whatever the tape draws.
-/
import Derived.Test.YtmflbcfphlmfjaaGreatDoorLvRecordKnown
import Derived.Test.YtmflbcfphlmfjaaGreatDoorPtrk
namespace Go.Proofs.YtmflbcfphlmfjaaGreatDoor
theorem recordKnown_card : Rows.RecordKnownCardSaid := Lv.RecordKnown.card (m := 250) (fun _ => by kernel_rfl) Lv.rklives
end Go.Proofs.YtmflbcfphlmfjaaGreatDoor
