/-
  PROVED: the law ReduceSurplus returns true for any oracle, any number of items, any start, any of the four searches, any number of further answers and whatever they say, and leaves them and the world as they were: where reduce.List, reduce.Counted, reduce.Difference or reduce.Changes (without needs), answered by the oracle question by question, come to a result, one answer more or up to nine give the error ErrState; and more answers than MaxAsks give the error ErrLimit.
  CONDITIONS: none but the row's. The searches ask by panic, remember what they were answered in a map that is keyed by the texts of sets, range over chunks, complements and sets by iterators, and are taken up again by a deferred closure; all of it is walked. The chapter's examples at the law's end are shown by the same contracts.
-/
import Derived.Test.YtmkapmbmgpnjaaaDpY
set_option maxRecDepth 100000
namespace Go.Proofs.Ytmkapmbmgpnjaaa
theorem reduceSurplus_holds : Rows.ReduceSurplusSaid := Se.saidS Se.awakeProg
end Go.Proofs.Ytmkapmbmgpnjaaa
