import Derived.Test.YtcgbbglhbbhpdaaGreatDoorPtmkDb
set_option maxRecDepth 100000
namespace Go.Proofs.YtcgbbglhbbhpdaaGreatDoor.Lv
open Go.Ev Go.Ev.Tx
theorem mkp54 (e : TypeId) : (kgo E 5030 (mkst54 e)).bind (gcK mkma54 mkmb54) = some (mkst55 e) := by kernel_rfl
theorem mkp55 (e : TypeId) : (kgo E 4845 (mkst55 e)).bind (gcK mkma55 mkmb55) = some (mkst56 e) := by kernel_rfl
theorem mkp56 (e : TypeId) : (kgo E 4845 (mkst56 e)).bind (gcK mkma56 mkmb56) = some (mkst57 e) := by kernel_rfl
theorem mkp57 (e : TypeId) : (kgo E 4630 (mkst57 e)).bind (gcK mkma57 mkmb57) = some (mkst58 e) := by kernel_rfl
theorem mkp58 (e : TypeId) : (kgo E 6055 (mkst58 e)).bind (gcK mkma58 mkmb58) = some (mkst59 e) := by kernel_rfl
theorem mkp59 (e : TypeId) : (kgo E 6400 (mkst59 e)).bind (gcK mkma59 mkmb59) = some (mkst60 e) := by kernel_rfl
end Go.Proofs.YtcgbbglhbbhpdaaGreatDoor.Lv
