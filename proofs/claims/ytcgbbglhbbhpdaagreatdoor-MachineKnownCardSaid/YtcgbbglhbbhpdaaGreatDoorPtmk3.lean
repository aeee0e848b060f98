import Derived.Test.YtcgbbglhbbhpdaaGreatDoorPtmkDb
set_option maxRecDepth 100000
namespace Go.Proofs.YtcgbbglhbbhpdaaGreatDoor.Lv
open Go.Ev Go.Ev.Tx
theorem mkp18 (e : TypeId) : (kgo E 4525 (mkst18 e)).bind (gcK mkma18 mkmb18) = some (mkst19 e) := by kernel_rfl
theorem mkp19 (e : TypeId) : (kgo E 4500 (mkst19 e)).bind (gcK mkma19 mkmb19) = some (mkst20 e) := by kernel_rfl
theorem mkp20 (e : TypeId) : (kgo E 5440 (mkst20 e)).bind (gcK mkma20 mkmb20) = some (mkst21 e) := by kernel_rfl
theorem mkp21 (e : TypeId) : (kgo E 5315 (mkst21 e)).bind (gcK mkma21 mkmb21) = some (mkst22 e) := by kernel_rfl
theorem mkp22 (e : TypeId) : (kgo E 6250 (mkst22 e)).bind (gcK mkma22 mkmb22) = some (mkst23 e) := by kernel_rfl
theorem mkp23 (e : TypeId) : (kgo E 5810 (mkst23 e)).bind (gcK mkma23 mkmb23) = some (mkst24 e) := by kernel_rfl
end Go.Proofs.YtcgbbglhbbhpdaaGreatDoor.Lv
