import Derived.Test.YtheacnllpeiidaaGreatDoorPttnDb
set_option maxRecDepth 100000
namespace Go.Proofs.YtheacnllpeiidaaGreatDoor.Lv
open Go.Ev Go.Ev.Tx
theorem tnp20 (e : TypeId) : (kgo E 2040 (tnst20 e)).bind (gcK tnma20 tnmb20) = some (tnst21 e) := by kernel_rfl
theorem tnp21 (e : TypeId) : (kgo E 2540 (tnst21 e)).bind (gcK tnma21 tnmb21) = some (tnst22 e) := by kernel_rfl
theorem tnp22 (e : TypeId) : (kgo E 2680 (tnst22 e)).bind (gcK tnma22 tnmb22) = some (tnst23 e) := by kernel_rfl
theorem tnp23 (e : TypeId) : (kgo E 3850 (tnst23 e)).bind (gcK tnma23 tnmb23) = some (tnst24 e) := by kernel_rfl
theorem tnp24 (e : TypeId) : (kgo E 3680 (tnst24 e)).bind (gcK tnma24 tnmb24) = some (tnst25 e) := by kernel_rfl
end Go.Proofs.YtheacnllpeiidaaGreatDoor.Lv
