import Derived.Test.YtcgbbglhbbhpdaaGreatDoorPtmkDb
set_option maxRecDepth 100000
namespace Go.Proofs.YtcgbbglhbbhpdaaGreatDoor.Lv
open Go.Ev Go.Ev.Tx
theorem mkp30 (e : TypeId) : (kgo E 4600 (mkst30 e)).bind (gcK mkma30 mkmb30) = some (mkst31 e) := by kernel_rfl
theorem mkp31 (e : TypeId) : (kgo E 5530 (mkst31 e)).bind (gcK mkma31 mkmb31) = some (mkst32 e) := by kernel_rfl
theorem mkp32 (e : TypeId) : (kgo E 5530 (mkst32 e)).bind (gcK mkma32 mkmb32) = some (mkst33 e) := by kernel_rfl
theorem mkp33 (e : TypeId) : (kgo E 4965 (mkst33 e)).bind (gcK mkma33 mkmb33) = some (mkst34 e) := by kernel_rfl
theorem mkp34 (e : TypeId) : (kgo E 4810 (mkst34 e)).bind (gcK mkma34 mkmb34) = some (mkst35 e) := by kernel_rfl
theorem mkp35 (e : TypeId) : (kgo E 4590 (mkst35 e)).bind (gcK mkma35 mkmb35) = some (mkst36 e) := by kernel_rfl
end Go.Proofs.YtcgbbglhbbhpdaaGreatDoor.Lv
