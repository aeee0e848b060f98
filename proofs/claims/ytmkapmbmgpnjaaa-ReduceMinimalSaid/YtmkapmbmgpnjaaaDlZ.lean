/-
  PROVED: the law ReduceMinimal returns true for any oracle, any number of items and any start, and leaves them and the world as they were: reduce.List and reduce.Counted, answered by the oracle question by question, come to their end; where the set of all items fails, their result is a set that fails, and that does not fail without any one of its elements; where it doesn't, their error is ErrNone.
  CONDITIONS: none but the row's. The searches ask by panic, remember what they were answered in a map that is keyed by the texts of sets, range over chunks and complements by iterators, one of which ranges over another one, and are taken up again by a deferred closure; all of it is walked. The chapter's examples at the law's end are evaluated in the kernel, part by part, over an abstract heap, whatever the tape draws.
-/
import Derived.Test.YtmkapmbmgpnjaaaDlY
import Derived.Test.YtmkapmbmgpnjaaaPtaw
set_option maxRecDepth 100000
namespace Go.Proofs.Ytmkapmbmgpnjaaa
theorem reduceMinimal_holds : Rows.ReduceMinimalSaid := Se.saidM fun w => Lv.Lives.calls Lv.awlives (fun _ => by kernel_rfl) w
end Go.Proofs.Ytmkapmbmgpnjaaa
