import Derived.Test.YtkkhpackddlmpaaGreatDoorPttkDc
set_option maxRecDepth 100000
namespace Go.Proofs.YtkkhpackddlmpaaGreatDoor.Lv
open Go.Ev Go.Ev.Tx
theorem tkp110 (e : TypeId) : (kgo E 1960 (tkst110 e)).bind (likeK (tkst111 e)) = some (tkst111 e) := by kernel_rfl
theorem tkp112 (e : TypeId) : (kgo E 2530 (tkst112 e)).bind (likeK (tkst113 e)) = some (tkst113 e) := by kernel_rfl
theorem tkp113 (e : TypeId) : (kgo E 3210 (tkst113 e)).bind (likeK (tkst114 e)) = some (tkst114 e) := by kernel_rfl
theorem tkp114 (e : TypeId) : (kgo E 2080 (tkst114 e)).bind (likeK (tkst115 e)) = some (tkst115 e) := by kernel_rfl
theorem tkp115 (e : TypeId) : (kgo E 2980 (tkst115 e)).bind (likeK (tkst116 e)) = some (tkst116 e) := by kernel_rfl
theorem tkp116 (e : TypeId) : (kgo E 2200 (tkst116 e)).bind (likeK (tkst117 e)) = some (tkst117 e) := by kernel_rfl
theorem tkp117 (e : TypeId) : (kgo E 3450 (tkst117 e)).bind (likeK (tkst118 e)) = some (tkst118 e) := by kernel_rfl
theorem tkp118 (e : TypeId) : (kgo E 2170 (tkst118 e)).bind (likeK (tkst119 e)) = some (tkst119 e) := by kernel_rfl
theorem tkp119 (e : TypeId) : (kgo E 3340 (tkst119 e)).bind (likeK (tkst120 e)) = some (tkst120 e) := by kernel_rfl
theorem tkp120 (e : TypeId) : (kgo E 1890 (tkst120 e)).bind (likeK (tkst121 e)) = some (tkst121 e) := by kernel_rfl
theorem tkp121 (e : TypeId) : (kgo E 2660 (tkst121 e)).bind (likeK (tkst122 e)) = some (tkst122 e) := by kernel_rfl
theorem tkp122 (e : TypeId) : (kgo E 2950 (tkst122 e)).bind (likeK (tkst123 e)) = some (tkst123 e) := by kernel_rfl
theorem tkp124 (e : TypeId) : (kgo E 2800 (tkst124 e)).bind (likeK (tkst125 e)) = some (tkst125 e) := by kernel_rfl
theorem tkp125 (e : TypeId) : (kgo E 1960 (tkst125 e)).bind (likeK (tkst126 e)) = some (tkst126 e) := by kernel_rfl
end Go.Proofs.YtkkhpackddlmpaaGreatDoor.Lv
