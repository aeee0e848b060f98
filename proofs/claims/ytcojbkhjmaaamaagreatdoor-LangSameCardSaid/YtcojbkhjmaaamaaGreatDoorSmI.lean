/-
  PROVED: the law LangSame returns true for any two programs, and leaves them and the world as they were: lang.Same answers what the specification's own comparison answers, every program is the same as itself, and the answer does not depend on the order of the two.
  CONDITIONS: those of the row: the listed package-level variables read as their text lays them (the card ties them to the program's text). The chapter's example at its end is evaluated in the kernel, part by part, over an abstract heap, whatever the tape draws.
-/
import Derived.Test.YtcojbkhjmaaamaaGreatDoorSmH
import Derived.Test.YtcojbkhjmaaamaaGreatDoorPtli
namespace Go.Proofs.YtcojbkhjmaaamaaGreatDoor
theorem langSame_card : Rows.LangSameCardSaid := Sm.card (m := 64) (fun _ => by kernel_rfl) Lv.lilives
end Go.Proofs.YtcojbkhjmaaamaaGreatDoor
