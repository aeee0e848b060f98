import Derived.Test.YtkkhpackddlmpaaGreatDoorPttkDc
set_option maxRecDepth 100000
namespace Go.Proofs.YtkkhpackddlmpaaGreatDoor.Lv
open Go.Ev Go.Ev.Tx
theorem tkp142 (e : TypeId) : (kgo E 3300 (tkst142 e)).bind (likeK (tkst143 e)) = some (tkst143 e) := by kernel_rfl
theorem tkp143 (e : TypeId) : (kgo E 2130 (tkst143 e)).bind (likeK (tkst144 e)) = some (tkst144 e) := by kernel_rfl
theorem tkp144 (e : TypeId) : (kgo E 2280 (tkst144 e)).bind (likeK (tkst145 e)) = some (tkst145 e) := by kernel_rfl
theorem tkp145 (e : TypeId) : (kgo E 2640 (tkst145 e)).bind (likeK (tkst146 e)) = some (tkst146 e) := by kernel_rfl
theorem tkp146 (e : TypeId) : (kgo E 2110 (tkst146 e)).bind (likeK (tkst147 e)) = some (tkst147 e) := by kernel_rfl
theorem tkp147 (e : TypeId) : (kgo E 2460 (tkst147 e)).bind (likeK (tkst148 e)) = some (tkst148 e) := by kernel_rfl
theorem tkp148 (e : TypeId) : (kgo E 3110 (tkst148 e)).bind (likeK (tkst149 e)) = some (tkst149 e) := by kernel_rfl
theorem tkp149 (e : TypeId) : (kgo E 2680 (tkst149 e)).bind (likeK (tkst150 e)) = some (tkst150 e) := by kernel_rfl
theorem tkp150 (e : TypeId) : (kgo E 3280 (tkst150 e)).bind (likeK (tkst151 e)) = some (tkst151 e) := by kernel_rfl
theorem tkp151 (e : TypeId) : (kgo E 2150 (tkst151 e)).bind (likeK (tkst152 e)) = some (tkst152 e) := by kernel_rfl
theorem tkp152 (e : TypeId) : (kgo E 2110 (tkst152 e)).bind (likeK (tkst153 e)) = some (tkst153 e) := by kernel_rfl
theorem tkp153 (e : TypeId) : (kgo E 2130 (tkst153 e)).bind (likeK (tkst154 e)) = some (tkst154 e) := by kernel_rfl
theorem tkp154 (e : TypeId) : (kgo E 2840 (tkst154 e)).bind (likeK (tkst155 e)) = some (tkst155 e) := by kernel_rfl
theorem tkp155 (e : TypeId) : (kgo E 1900 (tkst155 e)).bind (likeK (tkst156 e)) = some (tkst156 e) := by kernel_rfl
theorem tkp156 (e : TypeId) : (kgo E 1960 (tkst156 e)).bind (likeK (tkst157 e)) = some (tkst157 e) := by kernel_rfl
theorem tkp157 (e : TypeId) : (kgo E 2270 (tkst157 e)).bind (likeK (tkst158 e)) = some (tkst158 e) := by kernel_rfl
end Go.Proofs.YtkkhpackddlmpaaGreatDoor.Lv
