import Derived.Test.YtheacnllpeiidaaGreatDoorPttnDb
set_option maxRecDepth 100000
namespace Go.Proofs.YtheacnllpeiidaaGreatDoor.Lv
open Go.Ev Go.Ev.Tx
theorem tnp0 (e : TypeId) : (kgo E 2010 (st0 3 11 e)).bind (gcK tnma0 tnmb0) = some (tnst1 e) := by kernel_rfl
theorem tnp1 (e : TypeId) : (kgo E 2070 (tnst1 e)).bind (gcK tnma1 tnmb1) = some (tnst2 e) := by kernel_rfl
theorem tnp2 (e : TypeId) : (kgo E 2030 (tnst2 e)).bind (gcK tnma2 tnmb2) = some (tnst3 e) := by kernel_rfl
theorem tnp3 (e : TypeId) : (kgo E 2420 (tnst3 e)).bind (gcK tnma3 tnmb3) = some (tnst4 e) := by kernel_rfl
theorem tnp4 (e : TypeId) : (kgo E 2150 (tnst4 e)).bind (gcK tnma4 tnmb4) = some (tnst5 e) := by kernel_rfl
end Go.Proofs.YtheacnllpeiidaaGreatDoor.Lv
