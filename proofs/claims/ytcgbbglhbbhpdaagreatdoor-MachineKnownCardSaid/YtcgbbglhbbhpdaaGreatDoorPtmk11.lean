import Derived.Test.YtcgbbglhbbhpdaaGreatDoorPtmkDb
set_option maxRecDepth 100000
namespace Go.Proofs.YtcgbbglhbbhpdaaGreatDoor.Lv
open Go.Ev Go.Ev.Tx
theorem mkp66 (e : TypeId) : (kgo E 5710 (mkst66 e)).bind (gcK mkma66 mkmb66) = some (mkst67 e) := by kernel_rfl
theorem mkp67 (e : TypeId) : (kgo E 6190 (mkst67 e)).bind (gcK mkma67 mkmb67) = some (mkst68 e) := by kernel_rfl
theorem mkp68 (e : TypeId) : (kgo E 5600 (mkst68 e)).bind (gcK mkma68 mkmb68) = some (mkst69 e) := by kernel_rfl
theorem mkp69 (e : TypeId) : (kgo E 4865 (mkst69 e)).bind (gcK mkma69 mkmb69) = some (mkst70 e) := by kernel_rfl
theorem mkp70 (e : TypeId) : isTrue 3 (kgo E 41 (mkst70 e)) = true := by kernel_rfl
end Go.Proofs.YtcgbbglhbbhpdaaGreatDoor.Lv
