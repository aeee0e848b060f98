/-
  PROVED: the law RecordNil returns true and leaves the world as it was.
  CONDITIONS: those of the row: the listed package-level variables read as their text lays them (the card ties them to the program's text). The run is evaluated in the kernel, part by part, over an abstract heap, whatever the tape draws.
-/
import Derived.Test.YtblklpjkmegaaaaGreatDoorLvRecordNil
import Derived.Test.YtblklpjkmegaaaaGreatDoorPtrn
namespace Go.Proofs.YtblklpjkmegaaaaGreatDoor
theorem recordNil_card : Rows.RecordNilCardSaid := Lv.RecordNil.card (m := 11) (fun _ => by kernel_rfl) Lv.rnlives
end Go.Proofs.YtblklpjkmegaaaaGreatDoor
