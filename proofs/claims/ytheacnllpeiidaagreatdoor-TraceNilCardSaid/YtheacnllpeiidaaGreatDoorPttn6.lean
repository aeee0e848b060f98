import Derived.Test.YtheacnllpeiidaaGreatDoorPttnDb
set_option maxRecDepth 100000
namespace Go.Proofs.YtheacnllpeiidaaGreatDoor.Lv
open Go.Ev Go.Ev.Tx
theorem tnp30 (e : TypeId) : (kgo E 3250 (tnst30 e)).bind (gcK tnma30 tnmb30) = some (tnst31 e) := by kernel_rfl
theorem tnp31 (e : TypeId) : (kgo E 2300 (tnst31 e)).bind (gcK tnma31 tnmb31) = some (tnst32 e) := by kernel_rfl
theorem tnp32 (e : TypeId) : (kgo E 2280 (tnst32 e)).bind (gcK tnma32 tnmb32) = some (tnst33 e) := by kernel_rfl
theorem tnp33 (e : TypeId) : (kgo E 2750 (tnst33 e)).bind (gcK tnma33 tnmb33) = some (tnst34 e) := by kernel_rfl
theorem tnp34 (e : TypeId) : (kgo E 2150 (tnst34 e)).bind (gcK tnma34 tnmb34) = some (tnst35 e) := by kernel_rfl
end Go.Proofs.YtheacnllpeiidaaGreatDoor.Lv
