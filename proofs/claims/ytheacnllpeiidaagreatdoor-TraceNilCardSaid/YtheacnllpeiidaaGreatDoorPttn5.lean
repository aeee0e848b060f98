import Derived.Test.YtheacnllpeiidaaGreatDoorPttnDb
set_option maxRecDepth 100000
namespace Go.Proofs.YtheacnllpeiidaaGreatDoor.Lv
open Go.Ev Go.Ev.Tx
theorem tnp25 (e : TypeId) : (kgo E 2690 (tnst25 e)).bind (gcK tnma25 tnmb25) = some (tnst26 e) := by kernel_rfl
theorem tnp26 (e : TypeId) : (kgo E 3860 (tnst26 e)).bind (gcK tnma26 tnmb26) = some (tnst27 e) := by kernel_rfl
theorem tnp27 (e : TypeId) : (kgo E 2290 (tnst27 e)).bind (gcK tnma27 tnmb27) = some (tnst28 e) := by kernel_rfl
theorem tnp28 (e : TypeId) : (kgo E 3930 (tnst28 e)).bind (gcK tnma28 tnmb28) = some (tnst29 e) := by kernel_rfl
theorem tnp29 (e : TypeId) : (kgo E 3940 (tnst29 e)).bind (gcK tnma29 tnmb29) = some (tnst30 e) := by kernel_rfl
end Go.Proofs.YtheacnllpeiidaaGreatDoor.Lv
