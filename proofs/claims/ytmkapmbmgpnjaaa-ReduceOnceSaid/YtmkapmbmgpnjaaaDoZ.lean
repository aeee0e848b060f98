/-
  PROVED: the law ReduceOnce returns true for any oracle, any number of items, any start, any of the four searches and any cut, and leaves them and the world as they were: reduce.List, reduce.Counted, reduce.Difference and reduce.Changes (without needs), answered by the oracle question by question, ask no candidate twice, and with the first answers alone they ask again what they asked then.
  CONDITIONS: none but the row's. The searches ask by panic, remember what they were answered in a map that is keyed by the texts of sets, range over chunks, complements and sets by iterators, and are taken up again by a deferred closure; all of it is walked. The chapter's examples at the law's end are shown by the same contracts.
-/
import Derived.Test.YtmkapmbmgpnjaaaDoY
set_option maxRecDepth 100000
namespace Go.Proofs.Ytmkapmbmgpnjaaa
theorem reduceOnce_holds : Rows.ReduceOnceSaid := Se.saidO Se.awakeProg
end Go.Proofs.Ytmkapmbmgpnjaaa
