import Derived.Test.YtcgbbglhbbhpdaaGreatDoorPtmkDb
set_option maxRecDepth 100000
namespace Go.Proofs.YtcgbbglhbbhpdaaGreatDoor.Lv
open Go.Ev Go.Ev.Tx
theorem mkp0 (e : TypeId) : (kgo E 6315 (st0 3 137 e)).bind (gcK mkma0 mkmb0) = some (mkst1 e) := by kernel_rfl
theorem mkp1 (e : TypeId) : (kgo E 6260 (mkst1 e)).bind (gcK mkma1 mkmb1) = some (mkst2 e) := by kernel_rfl
theorem mkp2 (e : TypeId) : (kgo E 5595 (mkst2 e)).bind (gcK mkma2 mkmb2) = some (mkst3 e) := by kernel_rfl
theorem mkp3 (e : TypeId) : (kgo E 6015 (mkst3 e)).bind (gcK mkma3 mkmb3) = some (mkst4 e) := by kernel_rfl
theorem mkp4 (e : TypeId) : (kgo E 5675 (mkst4 e)).bind (gcK mkma4 mkmb4) = some (mkst5 e) := by kernel_rfl
theorem mkp5 (e : TypeId) : (kgo E 4685 (mkst5 e)).bind (gcK mkma5 mkmb5) = some (mkst6 e) := by kernel_rfl
end Go.Proofs.YtcgbbglhbbhpdaaGreatDoor.Lv
