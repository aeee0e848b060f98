import Derived.Test.YtcgbbglhbbhpdaaGreatDoorPtmkDb
set_option maxRecDepth 100000
namespace Go.Proofs.YtcgbbglhbbhpdaaGreatDoor.Lv
open Go.Ev Go.Ev.Tx
theorem mkp24 (e : TypeId) : (kgo E 5735 (mkst24 e)).bind (gcK mkma24 mkmb24) = some (mkst25 e) := by kernel_rfl
theorem mkp25 (e : TypeId) : (kgo E 5960 (mkst25 e)).bind (gcK mkma25 mkmb25) = some (mkst26 e) := by kernel_rfl
theorem mkp26 (e : TypeId) : (kgo E 4640 (mkst26 e)).bind (gcK mkma26 mkmb26) = some (mkst27 e) := by kernel_rfl
theorem mkp27 (e : TypeId) : (kgo E 4525 (mkst27 e)).bind (gcK mkma27 mkmb27) = some (mkst28 e) := by kernel_rfl
theorem mkp28 (e : TypeId) : (kgo E 4645 (mkst28 e)).bind (gcK mkma28 mkmb28) = some (mkst29 e) := by kernel_rfl
theorem mkp29 (e : TypeId) : (kgo E 4625 (mkst29 e)).bind (gcK mkma29 mkmb29) = some (mkst30 e) := by kernel_rfl
end Go.Proofs.YtcgbbglhbbhpdaaGreatDoor.Lv
