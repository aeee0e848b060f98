import Derived.Test.YtheacnllpeiidaaGreatDoorPttnDb
set_option maxRecDepth 100000
namespace Go.Proofs.YtheacnllpeiidaaGreatDoor.Lv
open Go.Ev Go.Ev.Tx
theorem tnp35 (e : TypeId) : (kgo E 2360 (tnst35 e)).bind (gcK tnma35 tnmb35) = some (tnst36 e) := by kernel_rfl
theorem tnp36 (e : TypeId) : (kgo E 2220 (tnst36 e)).bind (gcK tnma36 tnmb36) = some (tnst37 e) := by kernel_rfl
theorem tnp37 (e : TypeId) : (kgo E 3390 (tnst37 e)).bind (gcK tnma37 tnmb37) = some (tnst38 e) := by kernel_rfl
theorem tnp38 (e : TypeId) : (kgo E 2840 (tnst38 e)).bind (gcK tnma38 tnmb38) = some (tnst39 e) := by kernel_rfl
theorem tnp39 (e : TypeId) : isTrue 3 (kgo E 768 (tnst39 e)) = true := by kernel_rfl
end Go.Proofs.YtheacnllpeiidaaGreatDoor.Lv
