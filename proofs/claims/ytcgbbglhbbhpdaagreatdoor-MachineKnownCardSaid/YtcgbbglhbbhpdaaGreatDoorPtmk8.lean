import Derived.Test.YtcgbbglhbbhpdaaGreatDoorPtmkDb
set_option maxRecDepth 100000
namespace Go.Proofs.YtcgbbglhbbhpdaaGreatDoor.Lv
open Go.Ev Go.Ev.Tx
theorem mkp48 (e : TypeId) : (kgo E 5800 (mkst48 e)).bind (gcK mkma48 mkmb48) = some (mkst49 e) := by kernel_rfl
theorem mkp49 (e : TypeId) : (kgo E 5340 (mkst49 e)).bind (gcK mkma49 mkmb49) = some (mkst50 e) := by kernel_rfl
theorem mkp50 (e : TypeId) : (kgo E 4910 (mkst50 e)).bind (gcK mkma50 mkmb50) = some (mkst51 e) := by kernel_rfl
theorem mkp51 (e : TypeId) : (kgo E 4515 (mkst51 e)).bind (gcK mkma51 mkmb51) = some (mkst52 e) := by kernel_rfl
theorem mkp52 (e : TypeId) : (kgo E 4590 (mkst52 e)).bind (gcK mkma52 mkmb52) = some (mkst53 e) := by kernel_rfl
theorem mkp53 (e : TypeId) : (kgo E 6495 (mkst53 e)).bind (gcK mkma53 mkmb53) = some (mkst54 e) := by kernel_rfl
end Go.Proofs.YtcgbbglhbbhpdaaGreatDoor.Lv
