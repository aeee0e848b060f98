import Derived.Test.YtkkhpackddlmpaaGreatDoorPttkDc
set_option maxRecDepth 100000
namespace Go.Proofs.YtkkhpackddlmpaaGreatDoor.Lv
open Go.Ev Go.Ev.Tx
theorem tkp62 (e : TypeId) : (kgo E 2670 (tkst62 e)).bind (likeK (tkst63 e)) = some (tkst63 e) := by kernel_rfl
theorem tkp63 (e : TypeId) : (kgo E 1830 (tkst63 e)).bind (likeK (tkst64 e)) = some (tkst64 e) := by kernel_rfl
theorem tkp64 (e : TypeId) : (kgo E 2820 (tkst64 e)).bind (likeK (tkst65 e)) = some (tkst65 e) := by kernel_rfl
theorem tkp65 (e : TypeId) : (kgo E 2180 (tkst65 e)).bind (likeK (tkst66 e)) = some (tkst66 e) := by kernel_rfl
theorem tkp66 (e : TypeId) : (kgo E 1930 (tkst66 e)).bind (likeK (tkst67 e)) = some (tkst67 e) := by kernel_rfl
theorem tkp67 (e : TypeId) : (kgo E 3490 (tkst67 e)).bind (likeK (tkst68 e)) = some (tkst68 e) := by kernel_rfl
theorem tkp68 (e : TypeId) : (kgo E 2650 (tkst68 e)).bind (likeK (tkst69 e)) = some (tkst69 e) := by kernel_rfl
theorem tkp69 (e : TypeId) : (kgo E 2600 (tkst69 e)).bind (likeK (tkst70 e)) = some (tkst70 e) := by kernel_rfl
theorem tkp70 (e : TypeId) : (kgo E 2710 (tkst70 e)).bind (likeK (tkst71 e)) = some (tkst71 e) := by kernel_rfl
theorem tkp71 (e : TypeId) : (kgo E 1990 (tkst71 e)).bind (likeK (tkst72 e)) = some (tkst72 e) := by kernel_rfl
theorem tkp72 (e : TypeId) : (kgo E 3350 (tkst72 e)).bind (likeK (tkst73 e)) = some (tkst73 e) := by kernel_rfl
theorem tkp73 (e : TypeId) : (kgo E 2130 (tkst73 e)).bind (likeK (tkst74 e)) = some (tkst74 e) := by kernel_rfl
theorem tkp74 (e : TypeId) : (kgo E 2390 (tkst74 e)).bind (likeK (tkst75 e)) = some (tkst75 e) := by kernel_rfl
theorem tkp75 (e : TypeId) : (kgo E 2890 (tkst75 e)).bind (likeK (tkst76 e)) = some (tkst76 e) := by kernel_rfl
theorem tkp76 (e : TypeId) : (kgo E 1890 (tkst76 e)).bind (likeK (tkst77 e)) = some (tkst77 e) := by kernel_rfl
end Go.Proofs.YtkkhpackddlmpaaGreatDoor.Lv
