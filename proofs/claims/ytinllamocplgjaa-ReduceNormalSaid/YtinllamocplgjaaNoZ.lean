/-
  PROVED: the law ReduceNormal returns true for any list of picks and any number, and leaves them and the world as they were: reduce.Normal answers the error of the specification's own function; a normal form has no two neighbours of one thread, takes the same steps in the same order, and is its own normal form; joined at a preemption it has fewer picks, and each thread as many steps.
  CONDITIONS: none but the row's. The chapter's examples at its end are evaluated in the kernel, part by part, over an abstract heap, whatever the tape draws. slices.DeleteFunc goes by the shelf's contract.
-/
import Derived.Test.YtinllamocplgjaaNoY
import Derived.Test.YtinllamocplgjaaPtru
set_option maxRecDepth 100000
namespace Go.Proofs.Ytinllamocplgjaa
theorem reduceNormal_holds : Rows.ReduceNormalSaid := No.said fun w => Lv.Lives.calls Lv.rulives (fun _ => by kernel_rfl) w
end Go.Proofs.Ytinllamocplgjaa
