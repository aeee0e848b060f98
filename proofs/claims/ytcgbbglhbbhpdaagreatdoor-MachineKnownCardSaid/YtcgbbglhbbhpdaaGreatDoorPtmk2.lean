import Derived.Test.YtcgbbglhbbhpdaaGreatDoorPtmkDb
set_option maxRecDepth 100000
namespace Go.Proofs.YtcgbbglhbbhpdaaGreatDoor.Lv
open Go.Ev Go.Ev.Tx
theorem mkp12 (e : TypeId) : (kgo E 4665 (mkst12 e)).bind (gcK mkma12 mkmb12) = some (mkst13 e) := by kernel_rfl
theorem mkp13 (e : TypeId) : (kgo E 6305 (mkst13 e)).bind (gcK mkma13 mkmb13) = some (mkst14 e) := by kernel_rfl
theorem mkp14 (e : TypeId) : (kgo E 4745 (mkst14 e)).bind (gcK mkma14 mkmb14) = some (mkst15 e) := by kernel_rfl
theorem mkp15 (e : TypeId) : (kgo E 4560 (mkst15 e)).bind (gcK mkma15 mkmb15) = some (mkst16 e) := by kernel_rfl
theorem mkp16 (e : TypeId) : (kgo E 4845 (mkst16 e)).bind (gcK mkma16 mkmb16) = some (mkst17 e) := by kernel_rfl
theorem mkp17 (e : TypeId) : (kgo E 4730 (mkst17 e)).bind (gcK mkma17 mkmb17) = some (mkst18 e) := by kernel_rfl
end Go.Proofs.YtcgbbglhbbhpdaaGreatDoor.Lv
