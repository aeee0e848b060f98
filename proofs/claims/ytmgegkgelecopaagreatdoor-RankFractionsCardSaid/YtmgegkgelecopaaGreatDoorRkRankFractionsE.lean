/-
  PROVED: the law RankFractions returns true for any two numbers and any two fractions, and leaves them and the world as they were: rank.Fraction answers what the specification's own function answers (a quotient in lowest terms, or its error), and so does rank.Compare.
  CONDITIONS: those of the row: the listed package-level variable (the table of math/bits) reads as its text lays it (the card ties it to the program's text). The chapter's examples at its end are evaluated in the kernel, part by part, over an abstract heap, whatever the tape draws.
-/
import Derived.Test.YtmgegkgelecopaaGreatDoorRkRankFractionsY
import Derived.Test.YtmgegkgelecopaaGreatDoorPtra
namespace Go.Proofs.YtmgegkgelecopaaGreatDoor
theorem rankFractions_card : Rows.RankFractionsCardSaid := Rk.RankFractions.card (m := 99) (fun _ => by kernel_rfl) Lv.ralives
end Go.Proofs.YtmgegkgelecopaaGreatDoor
