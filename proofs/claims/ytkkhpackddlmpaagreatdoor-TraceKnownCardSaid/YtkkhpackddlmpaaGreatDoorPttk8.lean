import Derived.Test.YtkkhpackddlmpaaGreatDoorPttkDc
set_option maxRecDepth 100000
namespace Go.Proofs.YtkkhpackddlmpaaGreatDoor.Lv
open Go.Ev Go.Ev.Tx
theorem tkp49x4x2x2 (e : TypeId) : ((kgo E 1100 (tkst49 e)).bind fun c => (kpath E 2 845 [(3, 2), (4, 2), (5, 4)] c).map fun c => (kall E 2 845 1 c).map (likeK (tkst50 e))) = some (List.replicate 2 (some (tkst50 e))) := by kernel_rfl
theorem tkp49x4x3x0 (e : TypeId) : ((kgo E 1100 (tkst49 e)).bind fun c => (kpath E 2 845 [(3, 0), (4, 3), (5, 4)] c).map fun c => (kall E 2 845 1 c).map (likeK (tkst50 e))) = some (List.replicate 2 (some (tkst50 e))) := by kernel_rfl
theorem tkp49x4x3x1 (e : TypeId) : ((kgo E 1100 (tkst49 e)).bind fun c => (kpath E 2 845 [(3, 1), (4, 3), (5, 4)] c).map fun c => (kall E 2 845 1 c).map (likeK (tkst50 e))) = some (List.replicate 2 (some (tkst50 e))) := by kernel_rfl
theorem tkp49x4x3x2 (e : TypeId) : ((kgo E 1100 (tkst49 e)).bind fun c => (kpath E 2 845 [(3, 2), (4, 3), (5, 4)] c).map fun c => (kall E 2 845 1 c).map (likeK (tkst50 e))) = some (List.replicate 2 (some (tkst50 e))) := by kernel_rfl
theorem tkp50 (e : TypeId) : (kgo E 1830 (tkst50 e)).bind (likeK (tkst51 e)) = some (tkst51 e) := by kernel_rfl
theorem tkp51 (e : TypeId) : (kgo E 2570 (tkst51 e)).bind (likeK (tkst52 e)) = some (tkst52 e) := by kernel_rfl
theorem tkp52 (e : TypeId) : (kgo E 2870 (tkst52 e)).bind (likeK (tkst53 e)) = some (tkst53 e) := by kernel_rfl
theorem tkp53 (e : TypeId) : (kgo E 2610 (tkst53 e)).bind (likeK (tkst54 e)) = some (tkst54 e) := by kernel_rfl
theorem tkp54 (e : TypeId) : (kgo E 1880 (tkst54 e)).bind (likeK (tkst55 e)) = some (tkst55 e) := by kernel_rfl
theorem tkp55 (e : TypeId) : (kgo E 2730 (tkst55 e)).bind (likeK (tkst56 e)) = some (tkst56 e) := by kernel_rfl
theorem tkp56 (e : TypeId) : (kgo E 2130 (tkst56 e)).bind (likeK (tkst57 e)) = some (tkst57 e) := by kernel_rfl
theorem tkp57 (e : TypeId) : (kgo E 2610 (tkst57 e)).bind (likeK (tkst58 e)) = some (tkst58 e) := by kernel_rfl
theorem tkp58 (e : TypeId) : (kgo E 1940 (tkst58 e)).bind (likeK (tkst59 e)) = some (tkst59 e) := by kernel_rfl
theorem tkp59 (e : TypeId) : (kgo E 3340 (tkst59 e)).bind (likeK (tkst60 e)) = some (tkst60 e) := by kernel_rfl
theorem tkp60 (e : TypeId) : (kgo E 1840 (tkst60 e)).bind (likeK (tkst61 e)) = some (tkst61 e) := by kernel_rfl
theorem tkp61 (e : TypeId) : (kgo E 3380 (tkst61 e)).bind (likeK (tkst62 e)) = some (tkst62 e) := by kernel_rfl
end Go.Proofs.YtkkhpackddlmpaaGreatDoor.Lv
