import Derived.Test.YtmflbcfphlmfjaaGreatDoorPtrkDb
set_option maxRecDepth 100000
namespace Go.Proofs.YtmflbcfphlmfjaaGreatDoor.Lv
open Go.Ev Go.Ev.Tx
theorem rkp21 (e : TypeId) : (kgo E 2940 (rkst21 e)).bind (gcK rkma21 rkmb21) = some (rkst22 e) := by kernel_rfl
theorem rkp22 (e : TypeId) : (kgo E 2120 (rkst22 e)).bind (gcK rkma22 rkmb22) = some (rkst23 e) := by kernel_rfl
theorem rkp23 (e : TypeId) : (kgo E 2950 (rkst23 e)).bind (gcK rkma23 rkmb23) = some (rkst24 e) := by kernel_rfl
theorem rkp24 (e : TypeId) : (kgo E 3790 (rkst24 e)).bind (gcK rkma24 rkmb24) = some (rkst25 e) := by kernel_rfl
theorem rkp25 (e : TypeId) : (kgo E 2360 (rkst25 e)).bind (gcK rkma25 rkmb25) = some (rkst26 e) := by kernel_rfl
theorem rkp26 (e : TypeId) : (kgo E 2480 (rkst26 e)).bind (gcK rkma26 rkmb26) = some (rkst27 e) := by kernel_rfl
end Go.Proofs.YtmflbcfphlmfjaaGreatDoor.Lv
