import Derived.Test.YtkkhpackddlmpaaGreatDoorPttkDc
set_option maxRecDepth 100000
namespace Go.Proofs.YtkkhpackddlmpaaGreatDoor.Lv
open Go.Ev Go.Ev.Tx
theorem tkp94 (e : TypeId) : (kgo E 2090 (tkst94 e)).bind (likeK (tkst95 e)) = some (tkst95 e) := by kernel_rfl
theorem tkp95 (e : TypeId) : (kgo E 3580 (tkst95 e)).bind (likeK (tkst96 e)) = some (tkst96 e) := by kernel_rfl
theorem tkp96 (e : TypeId) : (kgo E 2590 (tkst96 e)).bind (likeK (tkst97 e)) = some (tkst97 e) := by kernel_rfl
theorem tkp97 (e : TypeId) : (kgo E 3310 (tkst97 e)).bind (likeK (tkst98 e)) = some (tkst98 e) := by kernel_rfl
theorem tkp98 (e : TypeId) : (kgo E 1820 (tkst98 e)).bind (likeK (tkst99 e)) = some (tkst99 e) := by kernel_rfl
theorem tkp99 (e : TypeId) : (kgo E 1840 (tkst99 e)).bind (likeK (tkst100 e)) = some (tkst100 e) := by kernel_rfl
theorem tkp100 (e : TypeId) : (kgo E 3380 (tkst100 e)).bind (likeK (tkst101 e)) = some (tkst101 e) := by kernel_rfl
theorem tkp101 (e : TypeId) : (kgo E 3550 (tkst101 e)).bind (likeK (tkst102 e)) = some (tkst102 e) := by kernel_rfl
theorem tkp102 (e : TypeId) : (kgo E 3480 (tkst102 e)).bind (likeK (tkst103 e)) = some (tkst103 e) := by kernel_rfl
theorem tkp103 (e : TypeId) : (kgo E 2320 (tkst103 e)).bind (likeK (tkst104 e)) = some (tkst104 e) := by kernel_rfl
theorem tkp104 (e : TypeId) : (kgo E 2790 (tkst104 e)).bind (likeK (tkst105 e)) = some (tkst105 e) := by kernel_rfl
theorem tkp105 (e : TypeId) : (kgo E 2190 (tkst105 e)).bind (likeK (tkst106 e)) = some (tkst106 e) := by kernel_rfl
theorem tkp106 (e : TypeId) : (kgo E 2330 (tkst106 e)).bind (likeK (tkst107 e)) = some (tkst107 e) := by kernel_rfl
theorem tkp107 (e : TypeId) : (kgo E 2380 (tkst107 e)).bind (likeK (tkst108 e)) = some (tkst108 e) := by kernel_rfl
theorem tkp108 (e : TypeId) : (kgo E 2660 (tkst108 e)).bind (likeK (tkst109 e)) = some (tkst109 e) := by kernel_rfl
theorem tkp109 (e : TypeId) : (kgo E 1840 (tkst109 e)).bind (likeK (tkst110 e)) = some (tkst110 e) := by kernel_rfl
end Go.Proofs.YtkkhpackddlmpaaGreatDoor.Lv
