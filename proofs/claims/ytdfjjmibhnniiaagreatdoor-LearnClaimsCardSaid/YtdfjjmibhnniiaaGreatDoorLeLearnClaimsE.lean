/-
  PROVED: the law LearnClaims returns true for any claims, any rows and any number of variables, and leaves them and the world as they were: learn.CheckClaim, learn.Holds and learn.First answer as the specification does: which claims are valid and with which error, whether a claim is true of a row, and the first row and claim that is not.
  CONDITIONS: those of the row: the listed package-level variables read as their text lays them (the card ties them to the program's text). The chapter's examples at its end are evaluated in the kernel, part by part, over an abstract heap, whatever the tape draws.
-/
import Derived.Test.YtdfjjmibhnniiaaGreatDoorLeY
import Derived.Test.YtdfjjmibhnniiaaGreatDoorPtlp
namespace Go.Proofs.YtdfjjmibhnniiaaGreatDoor
theorem learnClaims_card : Rows.LearnClaimsCardSaid := Le.card (m := 85) (fun _ => by kernel_rfl) Lv.lplives
end Go.Proofs.YtdfjjmibhnniiaaGreatDoor
