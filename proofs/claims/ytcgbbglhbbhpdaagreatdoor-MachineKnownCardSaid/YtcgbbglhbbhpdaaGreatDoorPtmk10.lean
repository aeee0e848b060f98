import Derived.Test.YtcgbbglhbbhpdaaGreatDoorPtmkDb
set_option maxRecDepth 100000
namespace Go.Proofs.YtcgbbglhbbhpdaaGreatDoor.Lv
open Go.Ev Go.Ev.Tx
theorem mkp60 (e : TypeId) : (kgo E 5485 (mkst60 e)).bind (gcK mkma60 mkmb60) = some (mkst61 e) := by kernel_rfl
theorem mkp61 (e : TypeId) : (kgo E 6145 (mkst61 e)).bind (gcK mkma61 mkmb61) = some (mkst62 e) := by kernel_rfl
theorem mkp62 (e : TypeId) : (kgo E 4645 (mkst62 e)).bind (gcK mkma62 mkmb62) = some (mkst63 e) := by kernel_rfl
theorem mkp63 (e : TypeId) : (kgo E 5345 (mkst63 e)).bind (gcK mkma63 mkmb63) = some (mkst64 e) := by kernel_rfl
theorem mkp64 (e : TypeId) : (kgo E 4525 (mkst64 e)).bind (gcK mkma64 mkmb64) = some (mkst65 e) := by kernel_rfl
theorem mkp65 (e : TypeId) : (kgo E 6345 (mkst65 e)).bind (gcK mkma65 mkmb65) = some (mkst66 e) := by kernel_rfl
end Go.Proofs.YtcgbbglhbbhpdaaGreatDoor.Lv
