/-
  PROVED: the law RankOrder returns true for any three fractions, and leaves them and the world as they were: rank.Compare is an order (it tells one of -1, 0 and 1; turned round, the opposite; of three fractions as an order does), and a fraction compares as equal with its lowest terms.
  CONDITIONS: those of the row: the listed package-level variable (the table of math/bits) reads as its text lays it (the card ties it to the program's text). The chapter's examples at its end are evaluated in the kernel, part by part, over an abstract heap, whatever the tape draws.
-/
import Derived.Test.YtmgegkgelecopaaGreatDoorRkRankOrderY
import Derived.Test.YtmgegkgelecopaaGreatDoorPtra
namespace Go.Proofs.YtmgegkgelecopaaGreatDoor
theorem rankOrder_card : Rows.RankOrderCardSaid := Rk.RankOrder.card (m := 99) (fun _ => by kernel_rfl) Lv.ralives
end Go.Proofs.YtmgegkgelecopaaGreatDoor
