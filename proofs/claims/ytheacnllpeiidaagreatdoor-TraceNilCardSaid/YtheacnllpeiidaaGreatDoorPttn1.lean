import Derived.Test.YtheacnllpeiidaaGreatDoorPttnDb
set_option maxRecDepth 100000
namespace Go.Proofs.YtheacnllpeiidaaGreatDoor.Lv
open Go.Ev Go.Ev.Tx
theorem tnp5 (e : TypeId) : (kgo E 2420 (tnst5 e)).bind (gcK tnma5 tnmb5) = some (tnst6 e) := by kernel_rfl
theorem tnp6 (e : TypeId) : (kgo E 2000 (tnst6 e)).bind (gcK tnma6 tnmb6) = some (tnst7 e) := by kernel_rfl
theorem tnp7 (e : TypeId) : (kgo E 2870 (tnst7 e)).bind (gcK tnma7 tnmb7) = some (tnst8 e) := by kernel_rfl
theorem tnp8 (e : TypeId) : (kgo E 2060 (tnst8 e)).bind (gcK tnma8 tnmb8) = some (tnst9 e) := by kernel_rfl
theorem tnp9 (e : TypeId) : (kgo E 2840 (tnst9 e)).bind (gcK tnma9 tnmb9) = some (tnst10 e) := by kernel_rfl
end Go.Proofs.YtheacnllpeiidaaGreatDoor.Lv
