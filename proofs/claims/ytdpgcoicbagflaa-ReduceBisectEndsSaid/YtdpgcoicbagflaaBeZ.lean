/-
  PROVED: the law ReduceBisectEnds returns true for any list of kinds of versions and any number, and leaves them and the world as they were: reduce.Bisect, asked over and over, asks one version at a time, none more often than it says, and ends at a version that passes and a later one that fails with none between them but such as cannot be tested; it finds the first bad version if all before it pass and all from it on fail; its error is told just if the first version does not pass or the last one does not fail.
  CONDITIONS: none but the row's. The search is left by panic and taken up by a deferred closure; both are walked whole. The chapter's examples at the law's end are evaluated in the kernel, part by part, over an abstract heap, whatever the tape draws.
-/
import Derived.Test.YtdpgcoicbagflaaBeY
import Derived.Test.YtdpgcoicbagflaaPtru
set_option maxRecDepth 100000
namespace Go.Proofs.Ytdpgcoicbagflaa
theorem reduceBisectEnds_holds : Rows.ReduceBisectEndsSaid := Be.said fun w => Lv.Lives.calls Lv.rulives (fun _ => by kernel_rfl) w
end Go.Proofs.Ytdpgcoicbagflaa
