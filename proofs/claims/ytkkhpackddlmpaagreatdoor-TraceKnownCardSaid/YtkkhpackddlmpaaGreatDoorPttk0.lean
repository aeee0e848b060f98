import Derived.Test.YtkkhpackddlmpaaGreatDoorPttkDc
set_option maxRecDepth 100000
namespace Go.Proofs.YtkkhpackddlmpaaGreatDoor.Lv
open Go.Ev Go.Ev.Tx
theorem tkp0 (e : TypeId) : (kgo E 1850 (st0 3 210 e)).bind (likeK (tkst1 e)) = some (tkst1 e) := by kernel_rfl
theorem tkp1 (e : TypeId) : (kgo E 2870 (tkst1 e)).bind (likeK (tkst2 e)) = some (tkst2 e) := by kernel_rfl
theorem tkp2 (e : TypeId) : (kgo E 2710 (tkst2 e)).bind (likeK (tkst3 e)) = some (tkst3 e) := by kernel_rfl
theorem tkp3 (e : TypeId) : (kgo E 1840 (tkst3 e)).bind (likeK (tkst4 e)) = some (tkst4 e) := by kernel_rfl
theorem tkp4 (e : TypeId) : (kgo E 2730 (tkst4 e)).bind (likeK (tkst5 e)) = some (tkst5 e) := by kernel_rfl
theorem tkp5 (e : TypeId) : (kgo E 2000 (tkst5 e)).bind (likeK (tkst6 e)) = some (tkst6 e) := by kernel_rfl
theorem tkp6 (e : TypeId) : (kgo E 2870 (tkst6 e)).bind (likeK (tkst7 e)) = some (tkst7 e) := by kernel_rfl
theorem tkp7 (e : TypeId) : (kgo E 2060 (tkst7 e)).bind (likeK (tkst8 e)) = some (tkst8 e) := by kernel_rfl
theorem tkp8 (e : TypeId) : (kgo E 2840 (tkst8 e)).bind (likeK (tkst9 e)) = some (tkst9 e) := by kernel_rfl
theorem tkp9 (e : TypeId) : (kgo E 1900 (tkst9 e)).bind (likeK (tkst10 e)) = some (tkst10 e) := by kernel_rfl
theorem tkp10 (e : TypeId) : (kgo E 1970 (tkst10 e)).bind (likeK (tkst11 e)) = some (tkst11 e) := by kernel_rfl
theorem tkp11 (e : TypeId) : (kgo E 1960 (tkst11 e)).bind (likeK (tkst12 e)) = some (tkst12 e) := by kernel_rfl
theorem tkp12 (e : TypeId) : (kgo E 2550 (tkst12 e)).bind (likeK (tkst13 e)) = some (tkst13 e) := by kernel_rfl
theorem tkp13 (e : TypeId) : (kgo E 2020 (tkst13 e)).bind (likeK (tkst14 e)) = some (tkst14 e) := by kernel_rfl
theorem tkp14 (e : TypeId) : (kgo E 1940 (tkst14 e)).bind (likeK (tkst15 e)) = some (tkst15 e) := by kernel_rfl
theorem tkp15 (e : TypeId) : (kgo E 1940 (tkst15 e)).bind (likeK (tkst16 e)) = some (tkst16 e) := by kernel_rfl
end Go.Proofs.YtkkhpackddlmpaaGreatDoor.Lv
