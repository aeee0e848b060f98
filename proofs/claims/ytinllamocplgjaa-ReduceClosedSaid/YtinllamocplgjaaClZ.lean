/-
  PROVED: the law ReduceClosed returns true for any needs of changes, any two lists of numbers and any number, and leaves them and the world as they were: the set that reduce.Close returns is closed and lies within every closed set that contains the set, and the one that reduce.Without returns is closed, lacks the change, and contains every closed subset without it.
  CONDITIONS: none but the row's. The chapter's examples at its end are evaluated in the kernel, part by part, over an abstract heap, whatever the tape draws.
-/
import Derived.Test.YtinllamocplgjaaClY
import Derived.Test.YtinllamocplgjaaPtru
set_option maxRecDepth 100000
namespace Go.Proofs.Ytinllamocplgjaa
theorem reduceClosed_holds : Rows.ReduceClosedSaid := Cl.said fun w => Lv.Lives.calls Lv.rulives (fun _ => by kernel_rfl) w
end Go.Proofs.Ytinllamocplgjaa
