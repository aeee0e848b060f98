import Derived.Test.YtmflbcfphlmfjaaGreatDoorPtrkDb
set_option maxRecDepth 100000
namespace Go.Proofs.YtmflbcfphlmfjaaGreatDoor.Lv
open Go.Ev Go.Ev.Tx
theorem rkp14 (e : TypeId) : (kgo E 2040 (rkst14 e)).bind (gcK rkma14 rkmb14) = some (rkst15 e) := by kernel_rfl
theorem rkp15 (e : TypeId) : (kgo E 2500 (rkst15 e)).bind (gcK rkma15 rkmb15) = some (rkst16 e) := by kernel_rfl
theorem rkp16 (e : TypeId) : (kgo E 2730 (rkst16 e)).bind (gcK rkma16 rkmb16) = some (rkst17 e) := by kernel_rfl
theorem rkp17 (e : TypeId) : (kgo E 2360 (rkst17 e)).bind (gcK rkma17 rkmb17) = some (rkst18 e) := by kernel_rfl
theorem rkp18 (e : TypeId) : (kgo E 2030 (rkst18 e)).bind (gcK rkma18 rkmb18) = some (rkst19 e) := by kernel_rfl
theorem rkp19 (e : TypeId) : (kgo E 3120 (rkst19 e)).bind (gcK rkma19 rkmb19) = some (rkst20 e) := by kernel_rfl
theorem rkp20 (e : TypeId) : (kgo E 3700 (rkst20 e)).bind (gcK rkma20 rkmb20) = some (rkst21 e) := by kernel_rfl
end Go.Proofs.YtmflbcfphlmfjaaGreatDoor.Lv
