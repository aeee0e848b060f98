import Derived.Test.YtmflbcfphlmfjaaGreatDoorPtrkDb
set_option maxRecDepth 100000
namespace Go.Proofs.YtmflbcfphlmfjaaGreatDoor.Lv
open Go.Ev Go.Ev.Tx
theorem rkp0 (e : TypeId) : (kgo E 3740 (st0 4 250 e)).bind (gcK rkma0 rkmb0) = some (rkst1 e) := by kernel_rfl
theorem rkp1 (e : TypeId) : (kgo E 3690 (rkst1 e)).bind (gcK rkma1 rkmb1) = some (rkst2 e) := by kernel_rfl
theorem rkp2 (e : TypeId) : (kgo E 2640 (rkst2 e)).bind (gcK rkma2 rkmb2) = some (rkst3 e) := by kernel_rfl
theorem rkp3 (e : TypeId) : (kgo E 2510 (rkst3 e)).bind (gcK rkma3 rkmb3) = some (rkst4 e) := by kernel_rfl
theorem rkp4 (e : TypeId) : (kgo E 2510 (rkst4 e)).bind (gcK rkma4 rkmb4) = some (rkst5 e) := by kernel_rfl
theorem rkp5 (e : TypeId) : (kgo E 3370 (rkst5 e)).bind (gcK rkma5 rkmb5) = some (rkst6 e) := by kernel_rfl
theorem rkp6 (e : TypeId) : (kgo E 3710 (rkst6 e)).bind (gcK rkma6 rkmb6) = some (rkst7 e) := by kernel_rfl
end Go.Proofs.YtmflbcfphlmfjaaGreatDoor.Lv
