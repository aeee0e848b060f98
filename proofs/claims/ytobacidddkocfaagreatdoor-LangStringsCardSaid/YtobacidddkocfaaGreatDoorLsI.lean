/-
  PROVED: the law LangStrings returns true for every string: lang.Name and lang.Operator answer what the specification's own Name and Operator answer; the argument and the world are left as they were.
  CONDITIONS: those of the row: the listed package-level variables read as their text lays them (the card ties them to the program's text). The chapter's example at its end is evaluated in the kernel, part by part, over an abstract heap, whatever the tape draws.
-/
import Derived.Test.YtobacidddkocfaaGreatDoorLsH
import Derived.Test.YtobacidddkocfaaGreatDoorPtli
namespace Go.Proofs.YtobacidddkocfaaGreatDoor
theorem langStrings_card : Rows.LangStringsCardSaid := Ls.card (m := 64) (fun _ => by kernel_rfl) Lv.lilives
end Go.Proofs.YtobacidddkocfaaGreatDoor
