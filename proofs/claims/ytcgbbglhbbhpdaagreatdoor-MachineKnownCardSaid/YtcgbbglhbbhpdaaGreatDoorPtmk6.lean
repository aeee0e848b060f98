import Derived.Test.YtcgbbglhbbhpdaaGreatDoorPtmkDb
set_option maxRecDepth 100000
namespace Go.Proofs.YtcgbbglhbbhpdaaGreatDoor.Lv
open Go.Ev Go.Ev.Tx
theorem mkp36 (e : TypeId) : (kgo E 4980 (mkst36 e)).bind (gcK mkma36 mkmb36) = some (mkst37 e) := by kernel_rfl
theorem mkp37 (e : TypeId) : (kgo E 4860 (mkst37 e)).bind (gcK mkma37 mkmb37) = some (mkst38 e) := by kernel_rfl
theorem mkp38 (e : TypeId) : (kgo E 4640 (mkst38 e)).bind (gcK mkma38 mkmb38) = some (mkst39 e) := by kernel_rfl
theorem mkp39 (e : TypeId) : (kgo E 4640 (mkst39 e)).bind (gcK mkma39 mkmb39) = some (mkst40 e) := by kernel_rfl
theorem mkp40 (e : TypeId) : (kgo E 4640 (mkst40 e)).bind (gcK mkma40 mkmb40) = some (mkst41 e) := by kernel_rfl
theorem mkp41 (e : TypeId) : (kgo E 4775 (mkst41 e)).bind (gcK mkma41 mkmb41) = some (mkst42 e) := by kernel_rfl
end Go.Proofs.YtcgbbglhbbhpdaaGreatDoor.Lv
