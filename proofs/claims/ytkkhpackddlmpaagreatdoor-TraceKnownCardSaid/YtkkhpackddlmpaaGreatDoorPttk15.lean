import Derived.Test.YtkkhpackddlmpaaGreatDoorPttkDc
set_option maxRecDepth 100000
namespace Go.Proofs.YtkkhpackddlmpaaGreatDoor.Lv
open Go.Ev Go.Ev.Tx
theorem tkp158 (e : TypeId) : (kgo E 2880 (tkst158 e)).bind (likeK (tkst159 e)) = some (tkst159 e) := by kernel_rfl
theorem tkp159 (e : TypeId) : (kgo E 2730 (tkst159 e)).bind (likeK (tkst160 e)) = some (tkst160 e) := by kernel_rfl
theorem tkp160 (e : TypeId) : (kgo E 3250 (tkst160 e)).bind (likeK (tkst161 e)) = some (tkst161 e) := by kernel_rfl
theorem tkp161 (e : TypeId) : (kgo E 1830 (tkst161 e)).bind (likeK (tkst162 e)) = some (tkst162 e) := by kernel_rfl
theorem tkp162 (e : TypeId) : (kgo E 2740 (tkst162 e)).bind (likeK (tkst163 e)) = some (tkst163 e) := by kernel_rfl
theorem tkp163 (e : TypeId) : (kgo E 2750 (tkst163 e)).bind (likeK (tkst164 e)) = some (tkst164 e) := by kernel_rfl
theorem tkp164 (e : TypeId) : (kgo E 2140 (tkst164 e)).bind (likeK (tkst165 e)) = some (tkst165 e) := by kernel_rfl
theorem tkp165 (e : TypeId) : (kgo E 2380 (tkst165 e)).bind (likeK (tkst166 e)) = some (tkst166 e) := by kernel_rfl
theorem tkp166 (e : TypeId) : (kgo E 2210 (tkst166 e)).bind (likeK (tkst167 e)) = some (tkst167 e) := by kernel_rfl
theorem tkp167 (e : TypeId) : (kgo E 3390 (tkst167 e)).bind (likeK (tkst168 e)) = some (tkst168 e) := by kernel_rfl
theorem tkp168 (e : TypeId) : (kgo E 2840 (tkst168 e)).bind (likeK (tkst169 e)) = some (tkst169 e) := by kernel_rfl
theorem tkp169 (e : TypeId) : isTrue 3 (kgo E 773 (tkst169 e)) = true := by kernel_rfl
end Go.Proofs.YtkkhpackddlmpaaGreatDoor.Lv
