/-
  PROVED: the law ReduceUnique returns true for any number of items, any start and any list, and leaves them and the world as they were: where the list is a set of items (of at most 12), and an oracle says that just the sets that contain it fail, then reduce.List, reduce.Counted and reduce.Changes (without needs), answered by that oracle question by question, end without error, and their result is that set.
  CONDITIONS: none but the row's. The searches ask by panic, remember what they were answered in a map that is keyed by the texts of sets, range over chunks, complements and sets by iterators, and are taken up again by a deferred closure; all of it is walked. The chapter's examples at the law's end are shown by the same contracts.
-/
import Derived.Test.YtmkapmbmgpnjaaaDmY
import Derived.Test.YtmkapmbmgpnjaaaDmT
set_option maxRecDepth 100000
namespace Go.Proofs.Ytmkapmbmgpnjaaa
theorem reduceUnique_holds : Rows.ReduceUniqueSaid := Se.saidU Se.awakeProg
end Go.Proofs.Ytmkapmbmgpnjaaa
