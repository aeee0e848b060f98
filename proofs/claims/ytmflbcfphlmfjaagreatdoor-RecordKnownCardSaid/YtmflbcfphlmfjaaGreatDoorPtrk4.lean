import Derived.Test.YtmflbcfphlmfjaaGreatDoorPtrkDb
set_option maxRecDepth 100000
namespace Go.Proofs.YtmflbcfphlmfjaaGreatDoor.Lv
open Go.Ev Go.Ev.Tx
theorem rkp28 (e : TypeId) : (kgo E 2560 (rkst28 e)).bind (gcK rkma28 rkmb28) = some (rkst29 e) := by kernel_rfl
theorem rkp30 (e : TypeId) : (kgo E 2940 (rkst30 e)).bind (gcK rkma30 rkmb30) = some (rkst31 e) := by kernel_rfl
theorem rkp31 (e : TypeId) : (kgo E 2120 (rkst31 e)).bind (gcK rkma31 rkmb31) = some (rkst32 e) := by kernel_rfl
theorem rkp32 (e : TypeId) : (kgo E 2950 (rkst32 e)).bind (gcK rkma32 rkmb32) = some (rkst33 e) := by kernel_rfl
theorem rkp33 (e : TypeId) : (kgo E 3710 (rkst33 e)).bind (gcK rkma33 rkmb33) = some (rkst34 e) := by kernel_rfl
theorem rkp34 (e : TypeId) : (kgo E 2940 (rkst34 e)).bind (gcK rkma34 rkmb34) = some (rkst35 e) := by kernel_rfl
end Go.Proofs.YtmflbcfphlmfjaaGreatDoor.Lv
