import Derived.Test.YtmflbcfphlmfjaaGreatDoorPtrkDb
set_option maxRecDepth 100000
namespace Go.Proofs.YtmflbcfphlmfjaaGreatDoor.Lv
open Go.Ev Go.Ev.Tx
theorem rkp7 (e : TypeId) : (kgo E 3440 (rkst7 e)).bind (gcK rkma7 rkmb7) = some (rkst8 e) := by kernel_rfl
theorem rkp8 (e : TypeId) : (kgo E 2040 (rkst8 e)).bind (gcK rkma8 rkmb8) = some (rkst9 e) := by kernel_rfl
theorem rkp9 (e : TypeId) : (kgo E 2530 (rkst9 e)).bind (gcK rkma9 rkmb9) = some (rkst10 e) := by kernel_rfl
theorem rkp10 (e : TypeId) : (kgo E 3690 (rkst10 e)).bind (gcK rkma10 rkmb10) = some (rkst11 e) := by kernel_rfl
theorem rkp11 (e : TypeId) : (kgo E 2000 (rkst11 e)).bind (gcK rkma11 rkmb11) = some (rkst12 e) := by kernel_rfl
theorem rkp12 (e : TypeId) : (kgo E 2850 (rkst12 e)).bind (gcK rkma12 rkmb12) = some (rkst13 e) := by kernel_rfl
theorem rkp13 (e : TypeId) : ((kgo E 85 (rkst13 e)).bind fun c => (kpath E 1 206 [] c).map fun c => (kall E 1 206 1 c).map (gcK rkma13 rkmb13)) = some (List.replicate 2 (some (rkst14 e))) := by kernel_rfl
end Go.Proofs.YtmflbcfphlmfjaaGreatDoor.Lv
