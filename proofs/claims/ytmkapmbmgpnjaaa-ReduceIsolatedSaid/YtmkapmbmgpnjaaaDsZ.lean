/-
  PROVED: the law ReduceIsolated returns true for any oracle and any number of items, and leaves them and the world as they were: reduce.Difference, answered by the oracle question by question, comes to its end; where the empty set does not pass or the set of all items does not fail, its error is ErrNone; elsewhere its result is a set that passes within one that fails, and their difference has one element, or none of its elements can be moved so that the answer is known.
  CONDITIONS: none but the row's. The search asks by panic, remembers what it was answered in a map that is keyed by the texts of sets, ranges over the chunks of the difference by an iterator, and is taken up again by a deferred closure; all of it is walked. The chapter's examples at the law's end are evaluated in the kernel, part by part, over an abstract heap, whatever the tape draws.
-/
import Derived.Test.YtmkapmbmgpnjaaaDsY
import Derived.Test.YtmkapmbmgpnjaaaPtaw
set_option maxRecDepth 100000
namespace Go.Proofs.Ytmkapmbmgpnjaaa
theorem reduceIsolated_holds : Rows.ReduceIsolatedSaid := Se.said fun w => Lv.Lives.calls Lv.awlives (fun _ => by kernel_rfl) w
end Go.Proofs.Ytmkapmbmgpnjaaa
