/-
  PROVED: the law ReduceChunks returns true for any list of integers and any number, and leaves them and the world as they were: reduce.Chunks answers what the specification's own function answers: the list, cut into consecutive chunks that are not empty and whose lengths differ by at most 1.
  CONDITIONS: none but the row's. The chapter's example at its end is evaluated in the kernel, part by part, over an abstract heap, whatever the tape draws.
-/
import Derived.Test.YtjljdfeglikbjaaRcN
import Derived.Test.YtjljdfeglikbjaaPtaw
set_option maxRecDepth 100000
namespace Go.Proofs.Ytjljdfeglikbjaa
theorem reduceChunks_holds : Rows.ReduceChunksSaid := Rc.said fun w => Lv.Lives.calls Lv.awlives (fun _ => by kernel_rfl) w
end Go.Proofs.Ytjljdfeglikbjaa
