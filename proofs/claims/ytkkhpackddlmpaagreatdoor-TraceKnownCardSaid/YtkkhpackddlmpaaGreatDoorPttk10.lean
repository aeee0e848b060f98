import Derived.Test.YtkkhpackddlmpaaGreatDoorPttkDc
set_option maxRecDepth 100000
namespace Go.Proofs.YtkkhpackddlmpaaGreatDoor.Lv
open Go.Ev Go.Ev.Tx
theorem tkp78 (e : TypeId) : (kgo E 2530 (tkst78 e)).bind (likeK (tkst79 e)) = some (tkst79 e) := by kernel_rfl
theorem tkp79 (e : TypeId) : (kgo E 1950 (tkst79 e)).bind (likeK (tkst80 e)) = some (tkst80 e) := by kernel_rfl
theorem tkp80 (e : TypeId) : (kgo E 2330 (tkst80 e)).bind (likeK (tkst81 e)) = some (tkst81 e) := by kernel_rfl
theorem tkp81 (e : TypeId) : (kgo E 3580 (tkst81 e)).bind (likeK (tkst82 e)) = some (tkst82 e) := by kernel_rfl
theorem tkp82 (e : TypeId) : (kgo E 2590 (tkst82 e)).bind (likeK (tkst83 e)) = some (tkst83 e) := by kernel_rfl
theorem tkp83 (e : TypeId) : (kgo E 3470 (tkst83 e)).bind (likeK (tkst84 e)) = some (tkst84 e) := by kernel_rfl
theorem tkp84 (e : TypeId) : (kgo E 2290 (tkst84 e)).bind (likeK (tkst85 e)) = some (tkst85 e) := by kernel_rfl
theorem tkp85 (e : TypeId) : (kgo E 3200 (tkst85 e)).bind (likeK (tkst86 e)) = some (tkst86 e) := by kernel_rfl
theorem tkp86 (e : TypeId) : (kgo E 2850 (tkst86 e)).bind (likeK (tkst87 e)) = some (tkst87 e) := by kernel_rfl
theorem tkp87 (e : TypeId) : (kgo E 2230 (tkst87 e)).bind (likeK (tkst88 e)) = some (tkst88 e) := by kernel_rfl
theorem tkp88 (e : TypeId) : (kgo E 2530 (tkst88 e)).bind (likeK (tkst89 e)) = some (tkst89 e) := by kernel_rfl
theorem tkp89 (e : TypeId) : (kgo E 2190 (tkst89 e)).bind (likeK (tkst90 e)) = some (tkst90 e) := by kernel_rfl
theorem tkp90 (e : TypeId) : (kgo E 1930 (tkst90 e)).bind (likeK (tkst91 e)) = some (tkst91 e) := by kernel_rfl
theorem tkp92 (e : TypeId) : (kgo E 2520 (tkst92 e)).bind (likeK (tkst93 e)) = some (tkst93 e) := by kernel_rfl
theorem tkp93 (e : TypeId) : (kgo E 2140 (tkst93 e)).bind (likeK (tkst94 e)) = some (tkst94 e) := by kernel_rfl
end Go.Proofs.YtkkhpackddlmpaaGreatDoor.Lv
