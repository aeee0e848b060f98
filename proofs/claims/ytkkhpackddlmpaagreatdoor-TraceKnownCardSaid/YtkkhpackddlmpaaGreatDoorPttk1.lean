import Derived.Test.YtkkhpackddlmpaaGreatDoorPttkDc
set_option maxRecDepth 100000
namespace Go.Proofs.YtkkhpackddlmpaaGreatDoor.Lv
open Go.Ev Go.Ev.Tx
theorem tkp16 (e : TypeId) : (kgo E 1990 (tkst16 e)).bind (likeK (tkst17 e)) = some (tkst17 e) := by kernel_rfl
theorem tkp17 (e : TypeId) : (kgo E 2750 (tkst17 e)).bind (likeK (tkst18 e)) = some (tkst18 e) := by kernel_rfl
theorem tkp18 (e : TypeId) : (kgo E 3280 (tkst18 e)).bind (likeK (tkst19 e)) = some (tkst19 e) := by kernel_rfl
theorem tkp19 (e : TypeId) : (kgo E 2140 (tkst19 e)).bind (likeK (tkst20 e)) = some (tkst20 e) := by kernel_rfl
theorem tkp20 (e : TypeId) : (kgo E 2110 (tkst20 e)).bind (likeK (tkst21 e)) = some (tkst21 e) := by kernel_rfl
theorem tkp21 (e : TypeId) : (kgo E 2320 (tkst21 e)).bind (likeK (tkst22 e)) = some (tkst22 e) := by kernel_rfl
theorem tkp22 (e : TypeId) : (kgo E 2000 (tkst22 e)).bind (likeK (tkst23 e)) = some (tkst23 e) := by kernel_rfl
theorem tkp23 (e : TypeId) : (kgo E 3060 (tkst23 e)).bind (likeK (tkst24 e)) = some (tkst24 e) := by kernel_rfl
theorem tkp24 (e : TypeId) : (kgo E 3120 (tkst24 e)).bind (likeK (tkst25 e)) = some (tkst25 e) := by kernel_rfl
theorem tkp25 (e : TypeId) : (kgo E 2680 (tkst25 e)).bind (likeK (tkst26 e)) = some (tkst26 e) := by kernel_rfl
theorem tkp26 (e : TypeId) : (kgo E 3280 (tkst26 e)).bind (likeK (tkst27 e)) = some (tkst27 e) := by kernel_rfl
theorem tkp27 (e : TypeId) : (kgo E 2140 (tkst27 e)).bind (likeK (tkst28 e)) = some (tkst28 e) := by kernel_rfl
theorem tkp28 (e : TypeId) : (kgo E 2110 (tkst28 e)).bind (likeK (tkst29 e)) = some (tkst29 e) := by kernel_rfl
theorem tkp29 (e : TypeId) : (kgo E 2690 (tkst29 e)).bind (likeK (tkst30 e)) = some (tkst30 e) := by kernel_rfl
theorem tkp30 (e : TypeId) : (kgo E 2290 (tkst30 e)).bind (likeK (tkst31 e)) = some (tkst31 e) := by kernel_rfl
theorem tkp31 (e : TypeId) : (kgo E 2020 (tkst31 e)).bind (likeK (tkst32 e)) = some (tkst32 e) := by kernel_rfl
end Go.Proofs.YtkkhpackddlmpaaGreatDoor.Lv
