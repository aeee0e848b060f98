import Derived.Test.YtmflbcfphlmfjaaGreatDoorPtrkDb
set_option maxRecDepth 100000
namespace Go.Proofs.YtmflbcfphlmfjaaGreatDoor.Lv
open Go.Ev Go.Ev.Tx
theorem rkp42 (e : TypeId) : (kgo E 3420 (rkst42 e)).bind (gcK rkma42 rkmb42) = some (rkst43 e) := by kernel_rfl
theorem rkp43 (e : TypeId) : (kgo E 3680 (rkst43 e)).bind (gcK rkma43 rkmb43) = some (rkst44 e) := by kernel_rfl
theorem rkp44 (e : TypeId) : (kgo E 2640 (rkst44 e)).bind (gcK rkma44 rkmb44) = some (rkst45 e) := by kernel_rfl
theorem rkp45 (e : TypeId) : (kgo E 2510 (rkst45 e)).bind (gcK rkma45 rkmb45) = some (rkst46 e) := by kernel_rfl
theorem rkp46 (e : TypeId) : (kgo E 2510 (rkst46 e)).bind (gcK rkma46 rkmb46) = some (rkst47 e) := by kernel_rfl
theorem rkp47 (e : TypeId) : (kgo E 3370 (rkst47 e)).bind (gcK rkma47 rkmb47) = some (rkst48 e) := by kernel_rfl
theorem rkp48 (e : TypeId) : isTrue 4 (kgo E 1777 (rkst48 e)) = true := by kernel_rfl
end Go.Proofs.YtmflbcfphlmfjaaGreatDoor.Lv
