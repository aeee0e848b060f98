/-
  PROVED: the law ReduceRemovable returns true for any oracle and any list of numbers, and leaves them and the world as they were: reduce.Removable asks the set without its first element, then without its second one, and so on; it ends at the first one without which the set fails, and that is its result; where there is none, the result is empty.
  CONDITIONS: none but the row's. The search is left by panic, remembers what it was answered in a map that is keyed by the texts of sets, and is taken up by a deferred closure; all of it is walked. The chapter's examples at the law's end are evaluated in the kernel, part by part, over an abstract heap, whatever the tape draws.
-/
import Derived.Test.YtdpgcoicbagflaaReY
import Derived.Test.YtdpgcoicbagflaaPtaw
set_option maxRecDepth 100000
namespace Go.Proofs.Ytdpgcoicbagflaa
theorem reduceRemovable_holds : Rows.ReduceRemovableSaid := Se.said fun w => Lv.Lives.calls Lv.awlives (fun _ => by kernel_rfl) w
end Go.Proofs.Ytdpgcoicbagflaa
