/-
  PROVED: the law ReduceBisects returns true for any two numbers and any list of answers, and leaves them and the world as they were: the question, the result or the error of reduce.Bisect for these answers is the one of the specification.
  CONDITIONS: none but the row's. The program's search is left by panic and taken up by a deferred closure; both are walked whole. The chapter's examples at the law's end are evaluated in the kernel, part by part, over an abstract heap, whatever the tape draws.
-/
import Derived.Test.YtdpgcoicbagflaaBiY
import Derived.Test.YtdpgcoicbagflaaPtru
set_option maxRecDepth 100000
namespace Go.Proofs.Ytdpgcoicbagflaa
theorem reduceBisects_holds : Rows.ReduceBisectsSaid := Bi.said fun w => Lv.Lives.calls Lv.rulives (fun _ => by kernel_rfl) w
end Go.Proofs.Ytdpgcoicbagflaa
