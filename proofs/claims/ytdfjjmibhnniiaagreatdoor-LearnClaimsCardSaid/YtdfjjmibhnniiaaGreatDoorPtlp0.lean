import Derived.Test.YtdfjjmibhnniiaaGreatDoorPtlpDa
set_option maxRecDepth 100000
namespace Go.Proofs.YtdfjjmibhnniiaaGreatDoor.Lv
open Go.Ev Go.Ev.Tx
theorem lpp0 (e : TypeId) : (kgo E 2070 (st0 9 85 e)).bind (likeK (lpst1 e)) = some (lpst1 e) := by kernel_rfl
theorem lpp1 (e : TypeId) : (kgo E 2580 (lpst1 e)).bind (likeK (lpst2 e)) = some (lpst2 e) := by kernel_rfl
end Go.Proofs.YtdfjjmibhnniiaaGreatDoor.Lv
