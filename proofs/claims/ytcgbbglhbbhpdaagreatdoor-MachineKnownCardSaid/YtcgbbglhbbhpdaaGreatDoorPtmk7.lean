import Derived.Test.YtcgbbglhbbhpdaaGreatDoorPtmkDb
set_option maxRecDepth 100000
namespace Go.Proofs.YtcgbbglhbbhpdaaGreatDoor.Lv
open Go.Ev Go.Ev.Tx
theorem mkp42 (e : TypeId) : (kgo E 5240 (mkst42 e)).bind (gcK mkma42 mkmb42) = some (mkst43 e) := by kernel_rfl
theorem mkp43 (e : TypeId) : (kgo E 5905 (mkst43 e)).bind (gcK mkma43 mkmb43) = some (mkst44 e) := by kernel_rfl
theorem mkp44 (e : TypeId) : (kgo E 6310 (mkst44 e)).bind (gcK mkma44 mkmb44) = some (mkst45 e) := by kernel_rfl
theorem mkp45 (e : TypeId) : (kgo E 5945 (mkst45 e)).bind (gcK mkma45 mkmb45) = some (mkst46 e) := by kernel_rfl
theorem mkp46 (e : TypeId) : (kgo E 4510 (mkst46 e)).bind (gcK mkma46 mkmb46) = some (mkst47 e) := by kernel_rfl
theorem mkp47 (e : TypeId) : (kgo E 4595 (mkst47 e)).bind (gcK mkma47 mkmb47) = some (mkst48 e) := by kernel_rfl
end Go.Proofs.YtcgbbglhbbhpdaaGreatDoor.Lv
