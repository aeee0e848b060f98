import Derived.Test.YtkkhpackddlmpaaGreatDoorPttkDc
set_option maxRecDepth 100000
namespace Go.Proofs.YtkkhpackddlmpaaGreatDoor.Lv
open Go.Ev Go.Ev.Tx
theorem tkp48x2x2x2 (e : TypeId) : ((kgo E 783 (tkst48 e)).bind fun c => (kpath E 1 845 [(3, 2), (4, 2), (5, 2)] c).map fun c => (kall E 1 845 1 c).map (likeK (tkst49 e))) = some (List.replicate 2 (some (tkst49 e))) := by kernel_rfl
theorem tkp48x2x3x0 (e : TypeId) : ((kgo E 783 (tkst48 e)).bind fun c => (kpath E 1 845 [(3, 0), (4, 3), (5, 2)] c).map fun c => (kall E 1 845 1 c).map (likeK (tkst49 e))) = some (List.replicate 2 (some (tkst49 e))) := by kernel_rfl
theorem tkp48x2x3x1 (e : TypeId) : ((kgo E 783 (tkst48 e)).bind fun c => (kpath E 1 845 [(3, 1), (4, 3), (5, 2)] c).map fun c => (kall E 1 845 1 c).map (likeK (tkst49 e))) = some (List.replicate 2 (some (tkst49 e))) := by kernel_rfl
theorem tkp48x2x3x2 (e : TypeId) : ((kgo E 783 (tkst48 e)).bind fun c => (kpath E 1 845 [(3, 2), (4, 3), (5, 2)] c).map fun c => (kall E 1 845 1 c).map (likeK (tkst49 e))) = some (List.replicate 2 (some (tkst49 e))) := by kernel_rfl
theorem tkp48x3x0 (e : TypeId) : ((kgo E 783 (tkst48 e)).bind fun c => (kpath E 1 845 [(4, 0), (5, 3)] c).map fun c => (kall E 1 845 2 c).map (likeK (tkst49 e))) = some (List.replicate 6 (some (tkst49 e))) := by kernel_rfl
theorem tkp48x3x1x0 (e : TypeId) : ((kgo E 783 (tkst48 e)).bind fun c => (kpath E 1 845 [(3, 0), (4, 1), (5, 3)] c).map fun c => (kall E 1 845 1 c).map (likeK (tkst49 e))) = some (List.replicate 2 (some (tkst49 e))) := by kernel_rfl
theorem tkp48x3x1x1 (e : TypeId) : ((kgo E 783 (tkst48 e)).bind fun c => (kpath E 1 845 [(3, 1), (4, 1), (5, 3)] c).map fun c => (kall E 1 845 1 c).map (likeK (tkst49 e))) = some (List.replicate 2 (some (tkst49 e))) := by kernel_rfl
theorem tkp48x3x1x2 (e : TypeId) : ((kgo E 783 (tkst48 e)).bind fun c => (kpath E 1 845 [(3, 2), (4, 1), (5, 3)] c).map fun c => (kall E 1 845 1 c).map (likeK (tkst49 e))) = some (List.replicate 2 (some (tkst49 e))) := by kernel_rfl
theorem tkp48x3x2x0 (e : TypeId) : ((kgo E 783 (tkst48 e)).bind fun c => (kpath E 1 845 [(3, 0), (4, 2), (5, 3)] c).map fun c => (kall E 1 845 1 c).map (likeK (tkst49 e))) = some (List.replicate 2 (some (tkst49 e))) := by kernel_rfl
theorem tkp48x3x2x1 (e : TypeId) : ((kgo E 783 (tkst48 e)).bind fun c => (kpath E 1 845 [(3, 1), (4, 2), (5, 3)] c).map fun c => (kall E 1 845 1 c).map (likeK (tkst49 e))) = some (List.replicate 2 (some (tkst49 e))) := by kernel_rfl
theorem tkp48x3x2x2 (e : TypeId) : ((kgo E 783 (tkst48 e)).bind fun c => (kpath E 1 845 [(3, 2), (4, 2), (5, 3)] c).map fun c => (kall E 1 845 1 c).map (likeK (tkst49 e))) = some (List.replicate 2 (some (tkst49 e))) := by kernel_rfl
theorem tkp48x3x3x0 (e : TypeId) : ((kgo E 783 (tkst48 e)).bind fun c => (kpath E 1 845 [(3, 0), (4, 3), (5, 3)] c).map fun c => (kall E 1 845 1 c).map (likeK (tkst49 e))) = some (List.replicate 2 (some (tkst49 e))) := by kernel_rfl
theorem tkp48x3x3x1 (e : TypeId) : ((kgo E 783 (tkst48 e)).bind fun c => (kpath E 1 845 [(3, 1), (4, 3), (5, 3)] c).map fun c => (kall E 1 845 1 c).map (likeK (tkst49 e))) = some (List.replicate 2 (some (tkst49 e))) := by kernel_rfl
theorem tkp48x3x3x2 (e : TypeId) : ((kgo E 783 (tkst48 e)).bind fun c => (kpath E 1 845 [(3, 2), (4, 3), (5, 3)] c).map fun c => (kall E 1 845 1 c).map (likeK (tkst49 e))) = some (List.replicate 2 (some (tkst49 e))) := by kernel_rfl
theorem tkp48x4x0x0 (e : TypeId) : ((kgo E 783 (tkst48 e)).bind fun c => (kpath E 1 845 [(3, 0), (4, 0), (5, 4)] c).map fun c => (kall E 1 845 1 c).map (likeK (tkst49 e))) = some (List.replicate 2 (some (tkst49 e))) := by kernel_rfl
theorem tkp48x4x0x1 (e : TypeId) : ((kgo E 783 (tkst48 e)).bind fun c => (kpath E 1 845 [(3, 1), (4, 0), (5, 4)] c).map fun c => (kall E 1 845 1 c).map (likeK (tkst49 e))) = some (List.replicate 2 (some (tkst49 e))) := by kernel_rfl
end Go.Proofs.YtkkhpackddlmpaaGreatDoor.Lv
