import Derived.Test.YtkkhpackddlmpaaGreatDoorPttkDc
set_option maxRecDepth 100000
namespace Go.Proofs.YtkkhpackddlmpaaGreatDoor.Lv
open Go.Ev Go.Ev.Tx
theorem tkp126 (e : TypeId) : (kgo E 2320 (tkst126 e)).bind (likeK (tkst127 e)) = some (tkst127 e) := by kernel_rfl
theorem tkp127 (e : TypeId) : (kgo E 2030 (tkst127 e)).bind (likeK (tkst128 e)) = some (tkst128 e) := by kernel_rfl
theorem tkp128 (e : TypeId) : (kgo E 1970 (tkst128 e)).bind (likeK (tkst129 e)) = some (tkst129 e) := by kernel_rfl
theorem tkp129 (e : TypeId) : (kgo E 1820 (tkst129 e)).bind (likeK (tkst130 e)) = some (tkst130 e) := by kernel_rfl
theorem tkp130 (e : TypeId) : (kgo E 2740 (tkst130 e)).bind (likeK (tkst131 e)) = some (tkst131 e) := by kernel_rfl
theorem tkp131 (e : TypeId) : (kgo E 2570 (tkst131 e)).bind (likeK (tkst132 e)) = some (tkst132 e) := by kernel_rfl
theorem tkp132 (e : TypeId) : (kgo E 2310 (tkst132 e)).bind (likeK (tkst133 e)) = some (tkst133 e) := by kernel_rfl
theorem tkp133 (e : TypeId) : (kgo E 2050 (tkst133 e)).bind (likeK (tkst134 e)) = some (tkst134 e) := by kernel_rfl
theorem tkp134 (e : TypeId) : (kgo E 2850 (tkst134 e)).bind (likeK (tkst135 e)) = some (tkst135 e) := by kernel_rfl
theorem tkp135 (e : TypeId) : (kgo E 2020 (tkst135 e)).bind (likeK (tkst136 e)) = some (tkst136 e) := by kernel_rfl
theorem tkp136 (e : TypeId) : (kgo E 1840 (tkst136 e)).bind (likeK (tkst137 e)) = some (tkst137 e) := by kernel_rfl
theorem tkp137 (e : TypeId) : (kgo E 2600 (tkst137 e)).bind (likeK (tkst138 e)) = some (tkst138 e) := by kernel_rfl
theorem tkp138 (e : TypeId) : (kgo E 3300 (tkst138 e)).bind (likeK (tkst139 e)) = some (tkst139 e) := by kernel_rfl
theorem tkp139 (e : TypeId) : (kgo E 3140 (tkst139 e)).bind (likeK (tkst140 e)) = some (tkst140 e) := by kernel_rfl
theorem tkp140 (e : TypeId) : (kgo E 3370 (tkst140 e)).bind (likeK (tkst141 e)) = some (tkst141 e) := by kernel_rfl
theorem tkp141 (e : TypeId) : (kgo E 2740 (tkst141 e)).bind (likeK (tkst142 e)) = some (tkst142 e) := by kernel_rfl
end Go.Proofs.YtkkhpackddlmpaaGreatDoor.Lv
