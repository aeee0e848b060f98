import Derived.Test.YtdfjjmibhnniiaaGreatDoorPtlpDa
set_option maxRecDepth 100000
namespace Go.Proofs.YtdfjjmibhnniiaaGreatDoor.Lv
open Go.Ev Go.Ev.Tx
theorem lpp2 (e : TypeId) : (kgo E 3550 (lpst2 e)).bind (likeK (lpst3 e)) = some (lpst3 e) := by kernel_rfl
theorem lpp3 (e : TypeId) : isTrue 9 (kgo E 1766 (lpst3 e)) = true := by kernel_rfl
end Go.Proofs.YtdfjjmibhnniiaaGreatDoor.Lv
