import Derived.Test.YtkkhpackddlmpaaGreatDoorPttkDc
set_option maxRecDepth 100000
namespace Go.Proofs.YtkkhpackddlmpaaGreatDoor.Lv
open Go.Ev Go.Ev.Tx
theorem tkp32 (e : TypeId) : (kgo E 1840 (tkst32 e)).bind (likeK (tkst33 e)) = some (tkst33 e) := by kernel_rfl
theorem tkp33 (e : TypeId) : (kgo E 3380 (tkst33 e)).bind (likeK (tkst34 e)) = some (tkst34 e) := by kernel_rfl
theorem tkp34 (e : TypeId) : (kgo E 2820 (tkst34 e)).bind (likeK (tkst35 e)) = some (tkst35 e) := by kernel_rfl
theorem tkp35 (e : TypeId) : (kgo E 1810 (tkst35 e)).bind (likeK (tkst36 e)) = some (tkst36 e) := by kernel_rfl
theorem tkp36 (e : TypeId) : (kgo E 3110 (tkst36 e)).bind (likeK (tkst37 e)) = some (tkst37 e) := by kernel_rfl
theorem tkp37 (e : TypeId) : (kgo E 1860 (tkst37 e)).bind (likeK (tkst38 e)) = some (tkst38 e) := by kernel_rfl
theorem tkp38 (e : TypeId) : (kgo E 2720 (tkst38 e)).bind (likeK (tkst39 e)) = some (tkst39 e) := by kernel_rfl
theorem tkp39 (e : TypeId) : (kgo E 2750 (tkst39 e)).bind (likeK (tkst40 e)) = some (tkst40 e) := by kernel_rfl
theorem tkp40 (e : TypeId) : (kgo E 2150 (tkst40 e)).bind (likeK (tkst41 e)) = some (tkst41 e) := by kernel_rfl
theorem tkp41 (e : TypeId) : (kgo E 2360 (tkst41 e)).bind (likeK (tkst42 e)) = some (tkst42 e) := by kernel_rfl
theorem tkp42 (e : TypeId) : (kgo E 2220 (tkst42 e)).bind (likeK (tkst43 e)) = some (tkst43 e) := by kernel_rfl
theorem tkp43 (e : TypeId) : (kgo E 3390 (tkst43 e)).bind (likeK (tkst44 e)) = some (tkst44 e) := by kernel_rfl
theorem tkp44 (e : TypeId) : (kgo E 2040 (tkst44 e)).bind (likeK (tkst45 e)) = some (tkst45 e) := by kernel_rfl
theorem tkp45 (e : TypeId) : (kgo E 3390 (tkst45 e)).bind (likeK (tkst46 e)) = some (tkst46 e) := by kernel_rfl
theorem tkp46 (e : TypeId) : (kgo E 2810 (tkst46 e)).bind (likeK (tkst47 e)) = some (tkst47 e) := by kernel_rfl
theorem tkp47 (e : TypeId) : ((kgo E 497 (tkst47 e)).bind fun c => (kpath E 1 357 [] c).map fun c => (kall E 1 357 2 c).map (likeK (tkst48 e))) = some (List.replicate 6 (some (tkst48 e))) := by kernel_rfl
end Go.Proofs.YtkkhpackddlmpaaGreatDoor.Lv
