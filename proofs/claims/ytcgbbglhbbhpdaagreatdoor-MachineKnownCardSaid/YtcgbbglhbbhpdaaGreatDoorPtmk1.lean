import Derived.Test.YtcgbbglhbbhpdaaGreatDoorPtmkDb
set_option maxRecDepth 100000
namespace Go.Proofs.YtcgbbglhbbhpdaaGreatDoor.Lv
open Go.Ev Go.Ev.Tx
theorem mkp6 (e : TypeId) : (kgo E 6355 (mkst6 e)).bind (gcK mkma6 mkmb6) = some (mkst7 e) := by kernel_rfl
theorem mkp7 (e : TypeId) : (kgo E 5980 (mkst7 e)).bind (gcK mkma7 mkmb7) = some (mkst8 e) := by kernel_rfl
theorem mkp8 (e : TypeId) : (kgo E 5735 (mkst8 e)).bind (gcK mkma8 mkmb8) = some (mkst9 e) := by kernel_rfl
theorem mkp9 (e : TypeId) : (kgo E 6090 (mkst9 e)).bind (gcK mkma9 mkmb9) = some (mkst10 e) := by kernel_rfl
theorem mkp10 (e : TypeId) : (kgo E 4520 (mkst10 e)).bind (gcK mkma10 mkmb10) = some (mkst11 e) := by kernel_rfl
theorem mkp11 (e : TypeId) : (kgo E 6470 (mkst11 e)).bind (gcK mkma11 mkmb11) = some (mkst12 e) := by kernel_rfl
end Go.Proofs.YtcgbbglhbbhpdaaGreatDoor.Lv
