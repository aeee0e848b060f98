import Derived.Test.YtheacnllpeiidaaGreatDoorPttnDb
set_option maxRecDepth 100000
namespace Go.Proofs.YtheacnllpeiidaaGreatDoor.Lv
open Go.Ev Go.Ev.Tx
theorem tnp15 (e : TypeId) : (kgo E 2750 (tnst15 e)).bind (gcK tnma15 tnmb15) = some (tnst16 e) := by kernel_rfl
theorem tnp16 (e : TypeId) : (kgo E 3850 (tnst16 e)).bind (gcK tnma16 tnmb16) = some (tnst17 e) := by kernel_rfl
theorem tnp17 (e : TypeId) : (kgo E 3680 (tnst17 e)).bind (gcK tnma17 tnmb17) = some (tnst18 e) := by kernel_rfl
theorem tnp18 (e : TypeId) : (kgo E 3820 (tnst18 e)).bind (gcK tnma18 tnmb18) = some (tnst19 e) := by kernel_rfl
theorem tnp19 (e : TypeId) : (kgo E 2100 (tnst19 e)).bind (gcK tnma19 tnmb19) = some (tnst20 e) := by kernel_rfl
end Go.Proofs.YtheacnllpeiidaaGreatDoor.Lv
