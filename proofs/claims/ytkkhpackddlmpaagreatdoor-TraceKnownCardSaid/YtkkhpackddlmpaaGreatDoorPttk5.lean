import Derived.Test.YtkkhpackddlmpaaGreatDoorPttkDc
set_option maxRecDepth 100000
namespace Go.Proofs.YtkkhpackddlmpaaGreatDoor.Lv
open Go.Ev Go.Ev.Tx
theorem tkp48x4x0x2 (e : TypeId) : ((kgo E 783 (tkst48 e)).bind fun c => (kpath E 1 845 [(3, 2), (4, 0), (5, 4)] c).map fun c => (kall E 1 845 1 c).map (likeK (tkst49 e))) = some (List.replicate 2 (some (tkst49 e))) := by kernel_rfl
theorem tkp48x4x1x0 (e : TypeId) : ((kgo E 783 (tkst48 e)).bind fun c => (kpath E 1 845 [(3, 0), (4, 1), (5, 4)] c).map fun c => (kall E 1 845 1 c).map (likeK (tkst49 e))) = some (List.replicate 2 (some (tkst49 e))) := by kernel_rfl
theorem tkp48x4x1x1 (e : TypeId) : ((kgo E 783 (tkst48 e)).bind fun c => (kpath E 1 845 [(3, 1), (4, 1), (5, 4)] c).map fun c => (kall E 1 845 1 c).map (likeK (tkst49 e))) = some (List.replicate 2 (some (tkst49 e))) := by kernel_rfl
theorem tkp48x4x1x2 (e : TypeId) : ((kgo E 783 (tkst48 e)).bind fun c => (kpath E 1 845 [(3, 2), (4, 1), (5, 4)] c).map fun c => (kall E 1 845 1 c).map (likeK (tkst49 e))) = some (List.replicate 2 (some (tkst49 e))) := by kernel_rfl
theorem tkp48x4x2x0 (e : TypeId) : ((kgo E 783 (tkst48 e)).bind fun c => (kpath E 1 845 [(3, 0), (4, 2), (5, 4)] c).map fun c => (kall E 1 845 1 c).map (likeK (tkst49 e))) = some (List.replicate 2 (some (tkst49 e))) := by kernel_rfl
theorem tkp48x4x2x1 (e : TypeId) : ((kgo E 783 (tkst48 e)).bind fun c => (kpath E 1 845 [(3, 1), (4, 2), (5, 4)] c).map fun c => (kall E 1 845 1 c).map (likeK (tkst49 e))) = some (List.replicate 2 (some (tkst49 e))) := by kernel_rfl
theorem tkp48x4x2x2 (e : TypeId) : ((kgo E 783 (tkst48 e)).bind fun c => (kpath E 1 845 [(3, 2), (4, 2), (5, 4)] c).map fun c => (kall E 1 845 1 c).map (likeK (tkst49 e))) = some (List.replicate 2 (some (tkst49 e))) := by kernel_rfl
theorem tkp48x4x3x0 (e : TypeId) : ((kgo E 783 (tkst48 e)).bind fun c => (kpath E 1 845 [(3, 0), (4, 3), (5, 4)] c).map fun c => (kall E 1 845 1 c).map (likeK (tkst49 e))) = some (List.replicate 2 (some (tkst49 e))) := by kernel_rfl
theorem tkp48x4x3x1 (e : TypeId) : ((kgo E 783 (tkst48 e)).bind fun c => (kpath E 1 845 [(3, 1), (4, 3), (5, 4)] c).map fun c => (kall E 1 845 1 c).map (likeK (tkst49 e))) = some (List.replicate 2 (some (tkst49 e))) := by kernel_rfl
theorem tkp48x4x3x2 (e : TypeId) : ((kgo E 783 (tkst48 e)).bind fun c => (kpath E 1 845 [(3, 2), (4, 3), (5, 4)] c).map fun c => (kall E 1 845 1 c).map (likeK (tkst49 e))) = some (List.replicate 2 (some (tkst49 e))) := by kernel_rfl
theorem tkp49x0x0 (e : TypeId) : ((kgo E 1100 (tkst49 e)).bind fun c => (kpath E 2 845 [(4, 0), (5, 0)] c).map fun c => (kall E 2 845 2 c).map (likeK (tkst50 e))) = some (List.replicate 6 (some (tkst50 e))) := by kernel_rfl
theorem tkp49x0x1 (e : TypeId) : ((kgo E 1100 (tkst49 e)).bind fun c => (kpath E 2 845 [(4, 1), (5, 0)] c).map fun c => (kall E 2 845 2 c).map (likeK (tkst50 e))) = some (List.replicate 6 (some (tkst50 e))) := by kernel_rfl
theorem tkp49x0x2 (e : TypeId) : ((kgo E 1100 (tkst49 e)).bind fun c => (kpath E 2 845 [(4, 2), (5, 0)] c).map fun c => (kall E 2 845 2 c).map (likeK (tkst50 e))) = some (List.replicate 6 (some (tkst50 e))) := by kernel_rfl
theorem tkp49x0x3x0 (e : TypeId) : ((kgo E 1100 (tkst49 e)).bind fun c => (kpath E 2 845 [(3, 0), (4, 3), (5, 0)] c).map fun c => (kall E 2 845 1 c).map (likeK (tkst50 e))) = some (List.replicate 2 (some (tkst50 e))) := by kernel_rfl
theorem tkp49x0x3x1 (e : TypeId) : ((kgo E 1100 (tkst49 e)).bind fun c => (kpath E 2 845 [(3, 1), (4, 3), (5, 0)] c).map fun c => (kall E 2 845 1 c).map (likeK (tkst50 e))) = some (List.replicate 2 (some (tkst50 e))) := by kernel_rfl
theorem tkp49x0x3x2 (e : TypeId) : ((kgo E 1100 (tkst49 e)).bind fun c => (kpath E 2 845 [(3, 2), (4, 3), (5, 0)] c).map fun c => (kall E 2 845 1 c).map (likeK (tkst50 e))) = some (List.replicate 2 (some (tkst50 e))) := by kernel_rfl
end Go.Proofs.YtkkhpackddlmpaaGreatDoor.Lv
