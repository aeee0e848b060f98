import Derived.Test.YtheacnllpeiidaaGreatDoorPttnDb
set_option maxRecDepth 100000
namespace Go.Proofs.YtheacnllpeiidaaGreatDoor.Lv
open Go.Ev Go.Ev.Tx
theorem tnp10 (e : TypeId) : (kgo E 3870 (tnst10 e)).bind (gcK tnma10 tnmb10) = some (tnst11 e) := by kernel_rfl
theorem tnp11 (e : TypeId) : (kgo E 3230 (tnst11 e)).bind (gcK tnma11 tnmb11) = some (tnst12 e) := by kernel_rfl
theorem tnp12 (e : TypeId) : (kgo E 2610 (tnst12 e)).bind (gcK tnma12 tnmb12) = some (tnst13 e) := by kernel_rfl
theorem tnp13 (e : TypeId) : (kgo E 2630 (tnst13 e)).bind (gcK tnma13 tnmb13) = some (tnst14 e) := by kernel_rfl
theorem tnp14 (e : TypeId) : (kgo E 3930 (tnst14 e)).bind (gcK tnma14 tnmb14) = some (tnst15 e) := by kernel_rfl
end Go.Proofs.YtheacnllpeiidaaGreatDoor.Lv
