import Derived.Test.YtmflbcfphlmfjaaGreatDoorPtrkDb
set_option maxRecDepth 100000
namespace Go.Proofs.YtmflbcfphlmfjaaGreatDoor.Lv
open Go.Ev Go.Ev.Tx
theorem rkp35 (e : TypeId) : (kgo E 2130 (rkst35 e)).bind (gcK rkma35 rkmb35) = some (rkst36 e) := by kernel_rfl
theorem rkp36 (e : TypeId) : (kgo E 2940 (rkst36 e)).bind (gcK rkma36 rkmb36) = some (rkst37 e) := by kernel_rfl
theorem rkp37 (e : TypeId) : (kgo E 3740 (rkst37 e)).bind (gcK rkma37 rkmb37) = some (rkst38 e) := by kernel_rfl
theorem rkp38 (e : TypeId) : (kgo E 3430 (rkst38 e)).bind (gcK rkma38 rkmb38) = some (rkst39 e) := by kernel_rfl
theorem rkp39 (e : TypeId) : (kgo E 2040 (rkst39 e)).bind (gcK rkma39 rkmb39) = some (rkst40 e) := by kernel_rfl
theorem rkp40 (e : TypeId) : (kgo E 2540 (rkst40 e)).bind (gcK rkma40 rkmb40) = some (rkst41 e) := by kernel_rfl
theorem rkp41 (e : TypeId) : (kgo E 2000 (rkst41 e)).bind (gcK rkma41 rkmb41) = some (rkst42 e) := by kernel_rfl
end Go.Proofs.YtmflbcfphlmfjaaGreatDoor.Lv
