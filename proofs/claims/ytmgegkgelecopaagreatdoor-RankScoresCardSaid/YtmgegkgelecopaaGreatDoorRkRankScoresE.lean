/-
  PROVED: the law RankScores returns true for any formula and any tally, and leaves them and the world as they were: rank.Score answers, for each of the fourteen formulas, the fraction in lowest terms that the specification's own function answers, and the same error for a formula that is none and for counts that are negative or above the limit.
  CONDITIONS: those of the row: the listed package-level variable (the table of math/bits) reads as its text lays it (the card ties it to the program's text). The chapter's examples at its end are evaluated in the kernel, part by part, over an abstract heap, whatever the tape draws.
-/
import Derived.Test.YtmgegkgelecopaaGreatDoorRkRankScoresY
import Derived.Test.YtmgegkgelecopaaGreatDoorPtra
namespace Go.Proofs.YtmgegkgelecopaaGreatDoor
theorem rankScores_card : Rows.RankScoresCardSaid := Rk.RankScores.card (m := 99) (fun _ => by kernel_rfl) Lv.ralives
end Go.Proofs.YtmgegkgelecopaaGreatDoor
