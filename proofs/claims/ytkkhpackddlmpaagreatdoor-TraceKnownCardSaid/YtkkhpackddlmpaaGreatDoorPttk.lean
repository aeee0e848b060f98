import Derived.Test.YtkkhpackddlmpaaGreatDoorPttkU
import Derived.Test.YtkkhpackddlmpaaGreatDoorPttkS
import Derived.Test.YtkkhpackddlmpaaGreatDoorPttk0
import Derived.Test.YtkkhpackddlmpaaGreatDoorPttk1
import Derived.Test.YtkkhpackddlmpaaGreatDoorPttk2
import Derived.Test.YtkkhpackddlmpaaGreatDoorPttk3
import Derived.Test.YtkkhpackddlmpaaGreatDoorPttk4
import Derived.Test.YtkkhpackddlmpaaGreatDoorPttk5
import Derived.Test.YtkkhpackddlmpaaGreatDoorPttk6
import Derived.Test.YtkkhpackddlmpaaGreatDoorPttk7
import Derived.Test.YtkkhpackddlmpaaGreatDoorPttk8
import Derived.Test.YtkkhpackddlmpaaGreatDoorPttk9
import Derived.Test.YtkkhpackddlmpaaGreatDoorPttk10
import Derived.Test.YtkkhpackddlmpaaGreatDoorPttk11
import Derived.Test.YtkkhpackddlmpaaGreatDoorPttk12
import Derived.Test.YtkkhpackddlmpaaGreatDoorPttk13
import Derived.Test.YtkkhpackddlmpaaGreatDoorPttk14
import Derived.Test.YtkkhpackddlmpaaGreatDoorPttk15
set_option maxRecDepth 100000
namespace Go.Proofs.YtkkhpackddlmpaaGreatDoor.Lv
open Go.Ev Go.Ev.Tx
theorem tkq47 (e : TypeId) : KV E 1 357 497 (tkst47 e) [] (tkst48 e) := KV.ofLike envOK mix (tkp47 e)
theorem tkqq47 (e : TypeId) : KTo E (tkst47 e) (tkst48 e) := KV.done envOK mix (tkq47 e)
theorem tkq48x0x0 (e : TypeId) : KV E 1 845 783 (tkst48 e) [(4, 0), (5, 0)] (tkst49 e) := KV.ofLike envOK mix (tkp48x0x0 e)
theorem tkq48x0x1 (e : TypeId) : KV E 1 845 783 (tkst48 e) [(4, 1), (5, 0)] (tkst49 e) := KV.ofLike envOK mix (tkp48x0x1 e)
theorem tkq48x0x2 (e : TypeId) : KV E 1 845 783 (tkst48 e) [(4, 2), (5, 0)] (tkst49 e) := KV.ofLike envOK mix (tkp48x0x2 e)
theorem tkq48x0x3x0 (e : TypeId) : KV E 1 845 783 (tkst48 e) [(3, 0), (4, 3), (5, 0)] (tkst49 e) := KV.ofLike envOK mix (tkp48x0x3x0 e)
theorem tkq48x0x3x1 (e : TypeId) : KV E 1 845 783 (tkst48 e) [(3, 1), (4, 3), (5, 0)] (tkst49 e) := KV.ofLike envOK mix (tkp48x0x3x1 e)
theorem tkq48x0x3x2 (e : TypeId) : KV E 1 845 783 (tkst48 e) [(3, 2), (4, 3), (5, 0)] (tkst49 e) := KV.ofLike envOK mix (tkp48x0x3x2 e)
theorem tkq48x0x3 (e : TypeId) : KV E 1 845 783 (tkst48 e) [(4, 3), (5, 0)] (tkst49 e) := KV.up (m := 2) envOK mix ⟨⟨⟨trivial, tkq48x0x3x0 e⟩, tkq48x0x3x1 e⟩, tkq48x0x3x2 e⟩
theorem tkq48x0 (e : TypeId) : KV E 1 845 783 (tkst48 e) [(5, 0)] (tkst49 e) := KV.up (m := 3) envOK mix ⟨⟨⟨⟨trivial, tkq48x0x0 e⟩, tkq48x0x1 e⟩, tkq48x0x2 e⟩, tkq48x0x3 e⟩
theorem tkq48x1x0 (e : TypeId) : KV E 1 845 783 (tkst48 e) [(4, 0), (5, 1)] (tkst49 e) := KV.ofLike envOK mix (tkp48x1x0 e)
theorem tkq48x1x1 (e : TypeId) : KV E 1 845 783 (tkst48 e) [(4, 1), (5, 1)] (tkst49 e) := KV.ofLike envOK mix (tkp48x1x1 e)
theorem tkq48x1x2 (e : TypeId) : KV E 1 845 783 (tkst48 e) [(4, 2), (5, 1)] (tkst49 e) := KV.ofLike envOK mix (tkp48x1x2 e)
theorem tkq48x1x3x0 (e : TypeId) : KV E 1 845 783 (tkst48 e) [(3, 0), (4, 3), (5, 1)] (tkst49 e) := KV.ofLike envOK mix (tkp48x1x3x0 e)
theorem tkq48x1x3x1 (e : TypeId) : KV E 1 845 783 (tkst48 e) [(3, 1), (4, 3), (5, 1)] (tkst49 e) := KV.ofLike envOK mix (tkp48x1x3x1 e)
theorem tkq48x1x3x2 (e : TypeId) : KV E 1 845 783 (tkst48 e) [(3, 2), (4, 3), (5, 1)] (tkst49 e) := KV.ofLike envOK mix (tkp48x1x3x2 e)
theorem tkq48x1x3 (e : TypeId) : KV E 1 845 783 (tkst48 e) [(4, 3), (5, 1)] (tkst49 e) := KV.up (m := 2) envOK mix ⟨⟨⟨trivial, tkq48x1x3x0 e⟩, tkq48x1x3x1 e⟩, tkq48x1x3x2 e⟩
theorem tkq48x1 (e : TypeId) : KV E 1 845 783 (tkst48 e) [(5, 1)] (tkst49 e) := KV.up (m := 3) envOK mix ⟨⟨⟨⟨trivial, tkq48x1x0 e⟩, tkq48x1x1 e⟩, tkq48x1x2 e⟩, tkq48x1x3 e⟩
theorem tkq48x2x0 (e : TypeId) : KV E 1 845 783 (tkst48 e) [(4, 0), (5, 2)] (tkst49 e) := KV.ofLike envOK mix (tkp48x2x0 e)
theorem tkq48x2x1 (e : TypeId) : KV E 1 845 783 (tkst48 e) [(4, 1), (5, 2)] (tkst49 e) := KV.ofLike envOK mix (tkp48x2x1 e)
theorem tkq48x2x2x0 (e : TypeId) : KV E 1 845 783 (tkst48 e) [(3, 0), (4, 2), (5, 2)] (tkst49 e) := KV.ofLike envOK mix (tkp48x2x2x0 e)
theorem tkq48x2x2x1 (e : TypeId) : KV E 1 845 783 (tkst48 e) [(3, 1), (4, 2), (5, 2)] (tkst49 e) := KV.ofLike envOK mix (tkp48x2x2x1 e)
theorem tkq48x2x2x2 (e : TypeId) : KV E 1 845 783 (tkst48 e) [(3, 2), (4, 2), (5, 2)] (tkst49 e) := KV.ofLike envOK mix (tkp48x2x2x2 e)
theorem tkq48x2x2 (e : TypeId) : KV E 1 845 783 (tkst48 e) [(4, 2), (5, 2)] (tkst49 e) := KV.up (m := 2) envOK mix ⟨⟨⟨trivial, tkq48x2x2x0 e⟩, tkq48x2x2x1 e⟩, tkq48x2x2x2 e⟩
theorem tkq48x2x3x0 (e : TypeId) : KV E 1 845 783 (tkst48 e) [(3, 0), (4, 3), (5, 2)] (tkst49 e) := KV.ofLike envOK mix (tkp48x2x3x0 e)
theorem tkq48x2x3x1 (e : TypeId) : KV E 1 845 783 (tkst48 e) [(3, 1), (4, 3), (5, 2)] (tkst49 e) := KV.ofLike envOK mix (tkp48x2x3x1 e)
theorem tkq48x2x3x2 (e : TypeId) : KV E 1 845 783 (tkst48 e) [(3, 2), (4, 3), (5, 2)] (tkst49 e) := KV.ofLike envOK mix (tkp48x2x3x2 e)
theorem tkq48x2x3 (e : TypeId) : KV E 1 845 783 (tkst48 e) [(4, 3), (5, 2)] (tkst49 e) := KV.up (m := 2) envOK mix ⟨⟨⟨trivial, tkq48x2x3x0 e⟩, tkq48x2x3x1 e⟩, tkq48x2x3x2 e⟩
theorem tkq48x2 (e : TypeId) : KV E 1 845 783 (tkst48 e) [(5, 2)] (tkst49 e) := KV.up (m := 3) envOK mix ⟨⟨⟨⟨trivial, tkq48x2x0 e⟩, tkq48x2x1 e⟩, tkq48x2x2 e⟩, tkq48x2x3 e⟩
theorem tkq48x3x0 (e : TypeId) : KV E 1 845 783 (tkst48 e) [(4, 0), (5, 3)] (tkst49 e) := KV.ofLike envOK mix (tkp48x3x0 e)
theorem tkq48x3x1x0 (e : TypeId) : KV E 1 845 783 (tkst48 e) [(3, 0), (4, 1), (5, 3)] (tkst49 e) := KV.ofLike envOK mix (tkp48x3x1x0 e)
theorem tkq48x3x1x1 (e : TypeId) : KV E 1 845 783 (tkst48 e) [(3, 1), (4, 1), (5, 3)] (tkst49 e) := KV.ofLike envOK mix (tkp48x3x1x1 e)
theorem tkq48x3x1x2 (e : TypeId) : KV E 1 845 783 (tkst48 e) [(3, 2), (4, 1), (5, 3)] (tkst49 e) := KV.ofLike envOK mix (tkp48x3x1x2 e)
theorem tkq48x3x1 (e : TypeId) : KV E 1 845 783 (tkst48 e) [(4, 1), (5, 3)] (tkst49 e) := KV.up (m := 2) envOK mix ⟨⟨⟨trivial, tkq48x3x1x0 e⟩, tkq48x3x1x1 e⟩, tkq48x3x1x2 e⟩
theorem tkq48x3x2x0 (e : TypeId) : KV E 1 845 783 (tkst48 e) [(3, 0), (4, 2), (5, 3)] (tkst49 e) := KV.ofLike envOK mix (tkp48x3x2x0 e)
theorem tkq48x3x2x1 (e : TypeId) : KV E 1 845 783 (tkst48 e) [(3, 1), (4, 2), (5, 3)] (tkst49 e) := KV.ofLike envOK mix (tkp48x3x2x1 e)
theorem tkq48x3x2x2 (e : TypeId) : KV E 1 845 783 (tkst48 e) [(3, 2), (4, 2), (5, 3)] (tkst49 e) := KV.ofLike envOK mix (tkp48x3x2x2 e)
theorem tkq48x3x2 (e : TypeId) : KV E 1 845 783 (tkst48 e) [(4, 2), (5, 3)] (tkst49 e) := KV.up (m := 2) envOK mix ⟨⟨⟨trivial, tkq48x3x2x0 e⟩, tkq48x3x2x1 e⟩, tkq48x3x2x2 e⟩
theorem tkq48x3x3x0 (e : TypeId) : KV E 1 845 783 (tkst48 e) [(3, 0), (4, 3), (5, 3)] (tkst49 e) := KV.ofLike envOK mix (tkp48x3x3x0 e)
theorem tkq48x3x3x1 (e : TypeId) : KV E 1 845 783 (tkst48 e) [(3, 1), (4, 3), (5, 3)] (tkst49 e) := KV.ofLike envOK mix (tkp48x3x3x1 e)
theorem tkq48x3x3x2 (e : TypeId) : KV E 1 845 783 (tkst48 e) [(3, 2), (4, 3), (5, 3)] (tkst49 e) := KV.ofLike envOK mix (tkp48x3x3x2 e)
theorem tkq48x3x3 (e : TypeId) : KV E 1 845 783 (tkst48 e) [(4, 3), (5, 3)] (tkst49 e) := KV.up (m := 2) envOK mix ⟨⟨⟨trivial, tkq48x3x3x0 e⟩, tkq48x3x3x1 e⟩, tkq48x3x3x2 e⟩
theorem tkq48x3 (e : TypeId) : KV E 1 845 783 (tkst48 e) [(5, 3)] (tkst49 e) := KV.up (m := 3) envOK mix ⟨⟨⟨⟨trivial, tkq48x3x0 e⟩, tkq48x3x1 e⟩, tkq48x3x2 e⟩, tkq48x3x3 e⟩
theorem tkq48x4x0x0 (e : TypeId) : KV E 1 845 783 (tkst48 e) [(3, 0), (4, 0), (5, 4)] (tkst49 e) := KV.ofLike envOK mix (tkp48x4x0x0 e)
theorem tkq48x4x0x1 (e : TypeId) : KV E 1 845 783 (tkst48 e) [(3, 1), (4, 0), (5, 4)] (tkst49 e) := KV.ofLike envOK mix (tkp48x4x0x1 e)
theorem tkq48x4x0x2 (e : TypeId) : KV E 1 845 783 (tkst48 e) [(3, 2), (4, 0), (5, 4)] (tkst49 e) := KV.ofLike envOK mix (tkp48x4x0x2 e)
theorem tkq48x4x0 (e : TypeId) : KV E 1 845 783 (tkst48 e) [(4, 0), (5, 4)] (tkst49 e) := KV.up (m := 2) envOK mix ⟨⟨⟨trivial, tkq48x4x0x0 e⟩, tkq48x4x0x1 e⟩, tkq48x4x0x2 e⟩
theorem tkq48x4x1x0 (e : TypeId) : KV E 1 845 783 (tkst48 e) [(3, 0), (4, 1), (5, 4)] (tkst49 e) := KV.ofLike envOK mix (tkp48x4x1x0 e)
theorem tkq48x4x1x1 (e : TypeId) : KV E 1 845 783 (tkst48 e) [(3, 1), (4, 1), (5, 4)] (tkst49 e) := KV.ofLike envOK mix (tkp48x4x1x1 e)
theorem tkq48x4x1x2 (e : TypeId) : KV E 1 845 783 (tkst48 e) [(3, 2), (4, 1), (5, 4)] (tkst49 e) := KV.ofLike envOK mix (tkp48x4x1x2 e)
theorem tkq48x4x1 (e : TypeId) : KV E 1 845 783 (tkst48 e) [(4, 1), (5, 4)] (tkst49 e) := KV.up (m := 2) envOK mix ⟨⟨⟨trivial, tkq48x4x1x0 e⟩, tkq48x4x1x1 e⟩, tkq48x4x1x2 e⟩
theorem tkq48x4x2x0 (e : TypeId) : KV E 1 845 783 (tkst48 e) [(3, 0), (4, 2), (5, 4)] (tkst49 e) := KV.ofLike envOK mix (tkp48x4x2x0 e)
theorem tkq48x4x2x1 (e : TypeId) : KV E 1 845 783 (tkst48 e) [(3, 1), (4, 2), (5, 4)] (tkst49 e) := KV.ofLike envOK mix (tkp48x4x2x1 e)
theorem tkq48x4x2x2 (e : TypeId) : KV E 1 845 783 (tkst48 e) [(3, 2), (4, 2), (5, 4)] (tkst49 e) := KV.ofLike envOK mix (tkp48x4x2x2 e)
theorem tkq48x4x2 (e : TypeId) : KV E 1 845 783 (tkst48 e) [(4, 2), (5, 4)] (tkst49 e) := KV.up (m := 2) envOK mix ⟨⟨⟨trivial, tkq48x4x2x0 e⟩, tkq48x4x2x1 e⟩, tkq48x4x2x2 e⟩
theorem tkq48x4x3x0 (e : TypeId) : KV E 1 845 783 (tkst48 e) [(3, 0), (4, 3), (5, 4)] (tkst49 e) := KV.ofLike envOK mix (tkp48x4x3x0 e)
theorem tkq48x4x3x1 (e : TypeId) : KV E 1 845 783 (tkst48 e) [(3, 1), (4, 3), (5, 4)] (tkst49 e) := KV.ofLike envOK mix (tkp48x4x3x1 e)
theorem tkq48x4x3x2 (e : TypeId) : KV E 1 845 783 (tkst48 e) [(3, 2), (4, 3), (5, 4)] (tkst49 e) := KV.ofLike envOK mix (tkp48x4x3x2 e)
theorem tkq48x4x3 (e : TypeId) : KV E 1 845 783 (tkst48 e) [(4, 3), (5, 4)] (tkst49 e) := KV.up (m := 2) envOK mix ⟨⟨⟨trivial, tkq48x4x3x0 e⟩, tkq48x4x3x1 e⟩, tkq48x4x3x2 e⟩
theorem tkq48x4 (e : TypeId) : KV E 1 845 783 (tkst48 e) [(5, 4)] (tkst49 e) := KV.up (m := 3) envOK mix ⟨⟨⟨⟨trivial, tkq48x4x0 e⟩, tkq48x4x1 e⟩, tkq48x4x2 e⟩, tkq48x4x3 e⟩
theorem tkq48 (e : TypeId) : KV E 1 845 783 (tkst48 e) [] (tkst49 e) := KV.up (m := 4) envOK mix ⟨⟨⟨⟨⟨trivial, tkq48x0 e⟩, tkq48x1 e⟩, tkq48x2 e⟩, tkq48x3 e⟩, tkq48x4 e⟩
theorem tkqq48 (e : TypeId) : KTo E (tkst48 e) (tkst49 e) := KV.done envOK mix (tkq48 e)
theorem tkq49x0x0 (e : TypeId) : KV E 2 845 1100 (tkst49 e) [(4, 0), (5, 0)] (tkst50 e) := KV.ofLike envOK mix (tkp49x0x0 e)
theorem tkq49x0x1 (e : TypeId) : KV E 2 845 1100 (tkst49 e) [(4, 1), (5, 0)] (tkst50 e) := KV.ofLike envOK mix (tkp49x0x1 e)
theorem tkq49x0x2 (e : TypeId) : KV E 2 845 1100 (tkst49 e) [(4, 2), (5, 0)] (tkst50 e) := KV.ofLike envOK mix (tkp49x0x2 e)
theorem tkq49x0x3x0 (e : TypeId) : KV E 2 845 1100 (tkst49 e) [(3, 0), (4, 3), (5, 0)] (tkst50 e) := KV.ofLike envOK mix (tkp49x0x3x0 e)
theorem tkq49x0x3x1 (e : TypeId) : KV E 2 845 1100 (tkst49 e) [(3, 1), (4, 3), (5, 0)] (tkst50 e) := KV.ofLike envOK mix (tkp49x0x3x1 e)
theorem tkq49x0x3x2 (e : TypeId) : KV E 2 845 1100 (tkst49 e) [(3, 2), (4, 3), (5, 0)] (tkst50 e) := KV.ofLike envOK mix (tkp49x0x3x2 e)
theorem tkq49x0x3 (e : TypeId) : KV E 2 845 1100 (tkst49 e) [(4, 3), (5, 0)] (tkst50 e) := KV.up (m := 2) envOK mix ⟨⟨⟨trivial, tkq49x0x3x0 e⟩, tkq49x0x3x1 e⟩, tkq49x0x3x2 e⟩
theorem tkq49x0 (e : TypeId) : KV E 2 845 1100 (tkst49 e) [(5, 0)] (tkst50 e) := KV.up (m := 3) envOK mix ⟨⟨⟨⟨trivial, tkq49x0x0 e⟩, tkq49x0x1 e⟩, tkq49x0x2 e⟩, tkq49x0x3 e⟩
theorem tkq49x1x0 (e : TypeId) : KV E 2 845 1100 (tkst49 e) [(4, 0), (5, 1)] (tkst50 e) := KV.ofLike envOK mix (tkp49x1x0 e)
theorem tkq49x1x1 (e : TypeId) : KV E 2 845 1100 (tkst49 e) [(4, 1), (5, 1)] (tkst50 e) := KV.ofLike envOK mix (tkp49x1x1 e)
theorem tkq49x1x2 (e : TypeId) : KV E 2 845 1100 (tkst49 e) [(4, 2), (5, 1)] (tkst50 e) := KV.ofLike envOK mix (tkp49x1x2 e)
theorem tkq49x1x3x0 (e : TypeId) : KV E 2 845 1100 (tkst49 e) [(3, 0), (4, 3), (5, 1)] (tkst50 e) := KV.ofLike envOK mix (tkp49x1x3x0 e)
theorem tkq49x1x3x1 (e : TypeId) : KV E 2 845 1100 (tkst49 e) [(3, 1), (4, 3), (5, 1)] (tkst50 e) := KV.ofLike envOK mix (tkp49x1x3x1 e)
theorem tkq49x1x3x2 (e : TypeId) : KV E 2 845 1100 (tkst49 e) [(3, 2), (4, 3), (5, 1)] (tkst50 e) := KV.ofLike envOK mix (tkp49x1x3x2 e)
theorem tkq49x1x3 (e : TypeId) : KV E 2 845 1100 (tkst49 e) [(4, 3), (5, 1)] (tkst50 e) := KV.up (m := 2) envOK mix ⟨⟨⟨trivial, tkq49x1x3x0 e⟩, tkq49x1x3x1 e⟩, tkq49x1x3x2 e⟩
theorem tkq49x1 (e : TypeId) : KV E 2 845 1100 (tkst49 e) [(5, 1)] (tkst50 e) := KV.up (m := 3) envOK mix ⟨⟨⟨⟨trivial, tkq49x1x0 e⟩, tkq49x1x1 e⟩, tkq49x1x2 e⟩, tkq49x1x3 e⟩
theorem tkq49x2x0 (e : TypeId) : KV E 2 845 1100 (tkst49 e) [(4, 0), (5, 2)] (tkst50 e) := KV.ofLike envOK mix (tkp49x2x0 e)
theorem tkq49x2x1 (e : TypeId) : KV E 2 845 1100 (tkst49 e) [(4, 1), (5, 2)] (tkst50 e) := KV.ofLike envOK mix (tkp49x2x1 e)
theorem tkq49x2x2x0 (e : TypeId) : KV E 2 845 1100 (tkst49 e) [(3, 0), (4, 2), (5, 2)] (tkst50 e) := KV.ofLike envOK mix (tkp49x2x2x0 e)
theorem tkq49x2x2x1 (e : TypeId) : KV E 2 845 1100 (tkst49 e) [(3, 1), (4, 2), (5, 2)] (tkst50 e) := KV.ofLike envOK mix (tkp49x2x2x1 e)
theorem tkq49x2x2x2 (e : TypeId) : KV E 2 845 1100 (tkst49 e) [(3, 2), (4, 2), (5, 2)] (tkst50 e) := KV.ofLike envOK mix (tkp49x2x2x2 e)
theorem tkq49x2x2 (e : TypeId) : KV E 2 845 1100 (tkst49 e) [(4, 2), (5, 2)] (tkst50 e) := KV.up (m := 2) envOK mix ⟨⟨⟨trivial, tkq49x2x2x0 e⟩, tkq49x2x2x1 e⟩, tkq49x2x2x2 e⟩
theorem tkq49x2x3x0 (e : TypeId) : KV E 2 845 1100 (tkst49 e) [(3, 0), (4, 3), (5, 2)] (tkst50 e) := KV.ofLike envOK mix (tkp49x2x3x0 e)
theorem tkq49x2x3x1 (e : TypeId) : KV E 2 845 1100 (tkst49 e) [(3, 1), (4, 3), (5, 2)] (tkst50 e) := KV.ofLike envOK mix (tkp49x2x3x1 e)
theorem tkq49x2x3x2 (e : TypeId) : KV E 2 845 1100 (tkst49 e) [(3, 2), (4, 3), (5, 2)] (tkst50 e) := KV.ofLike envOK mix (tkp49x2x3x2 e)
theorem tkq49x2x3 (e : TypeId) : KV E 2 845 1100 (tkst49 e) [(4, 3), (5, 2)] (tkst50 e) := KV.up (m := 2) envOK mix ⟨⟨⟨trivial, tkq49x2x3x0 e⟩, tkq49x2x3x1 e⟩, tkq49x2x3x2 e⟩
theorem tkq49x2 (e : TypeId) : KV E 2 845 1100 (tkst49 e) [(5, 2)] (tkst50 e) := KV.up (m := 3) envOK mix ⟨⟨⟨⟨trivial, tkq49x2x0 e⟩, tkq49x2x1 e⟩, tkq49x2x2 e⟩, tkq49x2x3 e⟩
theorem tkq49x3x0 (e : TypeId) : KV E 2 845 1100 (tkst49 e) [(4, 0), (5, 3)] (tkst50 e) := KV.ofLike envOK mix (tkp49x3x0 e)
theorem tkq49x3x1x0 (e : TypeId) : KV E 2 845 1100 (tkst49 e) [(3, 0), (4, 1), (5, 3)] (tkst50 e) := KV.ofLike envOK mix (tkp49x3x1x0 e)
theorem tkq49x3x1x1 (e : TypeId) : KV E 2 845 1100 (tkst49 e) [(3, 1), (4, 1), (5, 3)] (tkst50 e) := KV.ofLike envOK mix (tkp49x3x1x1 e)
theorem tkq49x3x1x2 (e : TypeId) : KV E 2 845 1100 (tkst49 e) [(3, 2), (4, 1), (5, 3)] (tkst50 e) := KV.ofLike envOK mix (tkp49x3x1x2 e)
theorem tkq49x3x1 (e : TypeId) : KV E 2 845 1100 (tkst49 e) [(4, 1), (5, 3)] (tkst50 e) := KV.up (m := 2) envOK mix ⟨⟨⟨trivial, tkq49x3x1x0 e⟩, tkq49x3x1x1 e⟩, tkq49x3x1x2 e⟩
theorem tkq49x3x2x0 (e : TypeId) : KV E 2 845 1100 (tkst49 e) [(3, 0), (4, 2), (5, 3)] (tkst50 e) := KV.ofLike envOK mix (tkp49x3x2x0 e)
theorem tkq49x3x2x1 (e : TypeId) : KV E 2 845 1100 (tkst49 e) [(3, 1), (4, 2), (5, 3)] (tkst50 e) := KV.ofLike envOK mix (tkp49x3x2x1 e)
theorem tkq49x3x2x2 (e : TypeId) : KV E 2 845 1100 (tkst49 e) [(3, 2), (4, 2), (5, 3)] (tkst50 e) := KV.ofLike envOK mix (tkp49x3x2x2 e)
theorem tkq49x3x2 (e : TypeId) : KV E 2 845 1100 (tkst49 e) [(4, 2), (5, 3)] (tkst50 e) := KV.up (m := 2) envOK mix ⟨⟨⟨trivial, tkq49x3x2x0 e⟩, tkq49x3x2x1 e⟩, tkq49x3x2x2 e⟩
theorem tkq49x3x3x0 (e : TypeId) : KV E 2 845 1100 (tkst49 e) [(3, 0), (4, 3), (5, 3)] (tkst50 e) := KV.ofLike envOK mix (tkp49x3x3x0 e)
theorem tkq49x3x3x1 (e : TypeId) : KV E 2 845 1100 (tkst49 e) [(3, 1), (4, 3), (5, 3)] (tkst50 e) := KV.ofLike envOK mix (tkp49x3x3x1 e)
theorem tkq49x3x3x2 (e : TypeId) : KV E 2 845 1100 (tkst49 e) [(3, 2), (4, 3), (5, 3)] (tkst50 e) := KV.ofLike envOK mix (tkp49x3x3x2 e)
theorem tkq49x3x3 (e : TypeId) : KV E 2 845 1100 (tkst49 e) [(4, 3), (5, 3)] (tkst50 e) := KV.up (m := 2) envOK mix ⟨⟨⟨trivial, tkq49x3x3x0 e⟩, tkq49x3x3x1 e⟩, tkq49x3x3x2 e⟩
theorem tkq49x3 (e : TypeId) : KV E 2 845 1100 (tkst49 e) [(5, 3)] (tkst50 e) := KV.up (m := 3) envOK mix ⟨⟨⟨⟨trivial, tkq49x3x0 e⟩, tkq49x3x1 e⟩, tkq49x3x2 e⟩, tkq49x3x3 e⟩
theorem tkq49x4x0x0 (e : TypeId) : KV E 2 845 1100 (tkst49 e) [(3, 0), (4, 0), (5, 4)] (tkst50 e) := KV.ofLike envOK mix (tkp49x4x0x0 e)
theorem tkq49x4x0x1 (e : TypeId) : KV E 2 845 1100 (tkst49 e) [(3, 1), (4, 0), (5, 4)] (tkst50 e) := KV.ofLike envOK mix (tkp49x4x0x1 e)
theorem tkq49x4x0x2 (e : TypeId) : KV E 2 845 1100 (tkst49 e) [(3, 2), (4, 0), (5, 4)] (tkst50 e) := KV.ofLike envOK mix (tkp49x4x0x2 e)
theorem tkq49x4x0 (e : TypeId) : KV E 2 845 1100 (tkst49 e) [(4, 0), (5, 4)] (tkst50 e) := KV.up (m := 2) envOK mix ⟨⟨⟨trivial, tkq49x4x0x0 e⟩, tkq49x4x0x1 e⟩, tkq49x4x0x2 e⟩
theorem tkq49x4x1x0 (e : TypeId) : KV E 2 845 1100 (tkst49 e) [(3, 0), (4, 1), (5, 4)] (tkst50 e) := KV.ofLike envOK mix (tkp49x4x1x0 e)
theorem tkq49x4x1x1 (e : TypeId) : KV E 2 845 1100 (tkst49 e) [(3, 1), (4, 1), (5, 4)] (tkst50 e) := KV.ofLike envOK mix (tkp49x4x1x1 e)
theorem tkq49x4x1x2 (e : TypeId) : KV E 2 845 1100 (tkst49 e) [(3, 2), (4, 1), (5, 4)] (tkst50 e) := KV.ofLike envOK mix (tkp49x4x1x2 e)
theorem tkq49x4x1 (e : TypeId) : KV E 2 845 1100 (tkst49 e) [(4, 1), (5, 4)] (tkst50 e) := KV.up (m := 2) envOK mix ⟨⟨⟨trivial, tkq49x4x1x0 e⟩, tkq49x4x1x1 e⟩, tkq49x4x1x2 e⟩
theorem tkq49x4x2x0 (e : TypeId) : KV E 2 845 1100 (tkst49 e) [(3, 0), (4, 2), (5, 4)] (tkst50 e) := KV.ofLike envOK mix (tkp49x4x2x0 e)
theorem tkq49x4x2x1 (e : TypeId) : KV E 2 845 1100 (tkst49 e) [(3, 1), (4, 2), (5, 4)] (tkst50 e) := KV.ofLike envOK mix (tkp49x4x2x1 e)
theorem tkq49x4x2x2 (e : TypeId) : KV E 2 845 1100 (tkst49 e) [(3, 2), (4, 2), (5, 4)] (tkst50 e) := KV.ofLike envOK mix (tkp49x4x2x2 e)
theorem tkq49x4x2 (e : TypeId) : KV E 2 845 1100 (tkst49 e) [(4, 2), (5, 4)] (tkst50 e) := KV.up (m := 2) envOK mix ⟨⟨⟨trivial, tkq49x4x2x0 e⟩, tkq49x4x2x1 e⟩, tkq49x4x2x2 e⟩
theorem tkq49x4x3x0 (e : TypeId) : KV E 2 845 1100 (tkst49 e) [(3, 0), (4, 3), (5, 4)] (tkst50 e) := KV.ofLike envOK mix (tkp49x4x3x0 e)
theorem tkq49x4x3x1 (e : TypeId) : KV E 2 845 1100 (tkst49 e) [(3, 1), (4, 3), (5, 4)] (tkst50 e) := KV.ofLike envOK mix (tkp49x4x3x1 e)
theorem tkq49x4x3x2 (e : TypeId) : KV E 2 845 1100 (tkst49 e) [(3, 2), (4, 3), (5, 4)] (tkst50 e) := KV.ofLike envOK mix (tkp49x4x3x2 e)
theorem tkq49x4x3 (e : TypeId) : KV E 2 845 1100 (tkst49 e) [(4, 3), (5, 4)] (tkst50 e) := KV.up (m := 2) envOK mix ⟨⟨⟨trivial, tkq49x4x3x0 e⟩, tkq49x4x3x1 e⟩, tkq49x4x3x2 e⟩
theorem tkq49x4 (e : TypeId) : KV E 2 845 1100 (tkst49 e) [(5, 4)] (tkst50 e) := KV.up (m := 3) envOK mix ⟨⟨⟨⟨trivial, tkq49x4x0 e⟩, tkq49x4x1 e⟩, tkq49x4x2 e⟩, tkq49x4x3 e⟩
theorem tkq49 (e : TypeId) : KV E 2 845 1100 (tkst49 e) [] (tkst50 e) := KV.up (m := 4) envOK mix ⟨⟨⟨⟨⟨trivial, tkq49x0 e⟩, tkq49x1 e⟩, tkq49x2 e⟩, tkq49x3 e⟩, tkq49x4 e⟩
theorem tkqq49 (e : TypeId) : KTo E (tkst49 e) (tkst50 e) := KV.done envOK mix (tkq49 e)
theorem tkqq77 (e : TypeId) : KTo E (tkst77 e) (tkst78 e) := (Part.to envOK mix (tkp77x0 e)).trans ((Part.to envOK mix (tkp77x1 e)).trans ((Part.to envOK mix (tkp77x2 e)).trans ((Part.to envOK mix (tkp77x3 e)).trans ((Part.to envOK mix (tkp77x4 e)).trans (Part.to envOK mix (tkp77x5 e))))))
theorem tkqq91 (e : TypeId) : KTo E (tkst91 e) (tkst92 e) := (Part.to envOK mix (tkp91x0 e)).trans ((Part.to envOK mix (tkp91x1 e)).trans (Part.to envOK mix (tkp91x2 e)))
theorem tkqq111 (e : TypeId) : KTo E (tkst111 e) (tkst112 e) := (Part.to envOK mix (tkp111x0 e)).trans ((Part.to envOK mix (tkp111x1 e)).trans (Part.to envOK mix (tkp111x2 e)))
theorem tkqq123 (e : TypeId) : KTo E (tkst123 e) (tkst124 e) := (Part.to envOK mix (tkp123x0 e)).trans ((Part.to envOK mix (tkp123x1 e)).trans ((Part.to envOK mix (tkp123x2 e)).trans (Part.to envOK mix (tkp123x3 e))))
theorem tklives : Lives 3 210 := fun e => by
  obtain ⟨H, h⟩ := Lives.last (tkp169 e)
  exact ⟨H, (Part.to envOK mix (tkp0 e)).trans ((Part.to envOK mix (tkp1 e)).trans ((Part.to envOK mix (tkp2 e)).trans ((Part.to envOK mix (tkp3 e)).trans ((Part.to envOK mix (tkp4 e)).trans ((Part.to envOK mix (tkp5 e)).trans ((Part.to envOK mix (tkp6 e)).trans ((Part.to envOK mix (tkp7 e)).trans ((Part.to envOK mix (tkp8 e)).trans ((Part.to envOK mix (tkp9 e)).trans ((Part.to envOK mix (tkp10 e)).trans ((Part.to envOK mix (tkp11 e)).trans ((Part.to envOK mix (tkp12 e)).trans ((Part.to envOK mix (tkp13 e)).trans ((Part.to envOK mix (tkp14 e)).trans ((Part.to envOK mix (tkp15 e)).trans ((Part.to envOK mix (tkp16 e)).trans ((Part.to envOK mix (tkp17 e)).trans ((Part.to envOK mix (tkp18 e)).trans ((Part.to envOK mix (tkp19 e)).trans ((Part.to envOK mix (tkp20 e)).trans ((Part.to envOK mix (tkp21 e)).trans ((Part.to envOK mix (tkp22 e)).trans ((Part.to envOK mix (tkp23 e)).trans ((Part.to envOK mix (tkp24 e)).trans ((Part.to envOK mix (tkp25 e)).trans ((Part.to envOK mix (tkp26 e)).trans ((Part.to envOK mix (tkp27 e)).trans ((Part.to envOK mix (tkp28 e)).trans ((Part.to envOK mix (tkp29 e)).trans ((Part.to envOK mix (tkp30 e)).trans ((Part.to envOK mix (tkp31 e)).trans ((Part.to envOK mix (tkp32 e)).trans ((Part.to envOK mix (tkp33 e)).trans ((Part.to envOK mix (tkp34 e)).trans ((Part.to envOK mix (tkp35 e)).trans ((Part.to envOK mix (tkp36 e)).trans ((Part.to envOK mix (tkp37 e)).trans ((Part.to envOK mix (tkp38 e)).trans ((Part.to envOK mix (tkp39 e)).trans ((Part.to envOK mix (tkp40 e)).trans ((Part.to envOK mix (tkp41 e)).trans ((Part.to envOK mix (tkp42 e)).trans ((Part.to envOK mix (tkp43 e)).trans ((Part.to envOK mix (tkp44 e)).trans ((Part.to envOK mix (tkp45 e)).trans ((Part.to envOK mix (tkp46 e)).trans ((tkqq47 e).trans ((tkqq48 e).trans ((tkqq49 e).trans ((Part.to envOK mix (tkp50 e)).trans ((Part.to envOK mix (tkp51 e)).trans ((Part.to envOK mix (tkp52 e)).trans ((Part.to envOK mix (tkp53 e)).trans ((Part.to envOK mix (tkp54 e)).trans ((Part.to envOK mix (tkp55 e)).trans ((Part.to envOK mix (tkp56 e)).trans ((Part.to envOK mix (tkp57 e)).trans ((Part.to envOK mix (tkp58 e)).trans ((Part.to envOK mix (tkp59 e)).trans ((Part.to envOK mix (tkp60 e)).trans ((Part.to envOK mix (tkp61 e)).trans ((Part.to envOK mix (tkp62 e)).trans ((Part.to envOK mix (tkp63 e)).trans ((Part.to envOK mix (tkp64 e)).trans ((Part.to envOK mix (tkp65 e)).trans ((Part.to envOK mix (tkp66 e)).trans ((Part.to envOK mix (tkp67 e)).trans ((Part.to envOK mix (tkp68 e)).trans ((Part.to envOK mix (tkp69 e)).trans ((Part.to envOK mix (tkp70 e)).trans ((Part.to envOK mix (tkp71 e)).trans ((Part.to envOK mix (tkp72 e)).trans ((Part.to envOK mix (tkp73 e)).trans ((Part.to envOK mix (tkp74 e)).trans ((Part.to envOK mix (tkp75 e)).trans ((Part.to envOK mix (tkp76 e)).trans ((tkqq77 e).trans ((Part.to envOK mix (tkp78 e)).trans ((Part.to envOK mix (tkp79 e)).trans ((Part.to envOK mix (tkp80 e)).trans ((Part.to envOK mix (tkp81 e)).trans ((Part.to envOK mix (tkp82 e)).trans ((Part.to envOK mix (tkp83 e)).trans ((Part.to envOK mix (tkp84 e)).trans ((Part.to envOK mix (tkp85 e)).trans ((Part.to envOK mix (tkp86 e)).trans ((Part.to envOK mix (tkp87 e)).trans ((Part.to envOK mix (tkp88 e)).trans ((Part.to envOK mix (tkp89 e)).trans ((Part.to envOK mix (tkp90 e)).trans ((tkqq91 e).trans ((Part.to envOK mix (tkp92 e)).trans ((Part.to envOK mix (tkp93 e)).trans ((Part.to envOK mix (tkp94 e)).trans ((Part.to envOK mix (tkp95 e)).trans ((Part.to envOK mix (tkp96 e)).trans ((Part.to envOK mix (tkp97 e)).trans ((Part.to envOK mix (tkp98 e)).trans ((Part.to envOK mix (tkp99 e)).trans ((Part.to envOK mix (tkp100 e)).trans ((Part.to envOK mix (tkp101 e)).trans ((Part.to envOK mix (tkp102 e)).trans ((Part.to envOK mix (tkp103 e)).trans ((Part.to envOK mix (tkp104 e)).trans ((Part.to envOK mix (tkp105 e)).trans ((Part.to envOK mix (tkp106 e)).trans ((Part.to envOK mix (tkp107 e)).trans ((Part.to envOK mix (tkp108 e)).trans ((Part.to envOK mix (tkp109 e)).trans ((Part.to envOK mix (tkp110 e)).trans ((tkqq111 e).trans ((Part.to envOK mix (tkp112 e)).trans ((Part.to envOK mix (tkp113 e)).trans ((Part.to envOK mix (tkp114 e)).trans ((Part.to envOK mix (tkp115 e)).trans ((Part.to envOK mix (tkp116 e)).trans ((Part.to envOK mix (tkp117 e)).trans ((Part.to envOK mix (tkp118 e)).trans ((Part.to envOK mix (tkp119 e)).trans ((Part.to envOK mix (tkp120 e)).trans ((Part.to envOK mix (tkp121 e)).trans ((Part.to envOK mix (tkp122 e)).trans ((tkqq123 e).trans ((Part.to envOK mix (tkp124 e)).trans ((Part.to envOK mix (tkp125 e)).trans ((Part.to envOK mix (tkp126 e)).trans ((Part.to envOK mix (tkp127 e)).trans ((Part.to envOK mix (tkp128 e)).trans ((Part.to envOK mix (tkp129 e)).trans ((Part.to envOK mix (tkp130 e)).trans ((Part.to envOK mix (tkp131 e)).trans ((Part.to envOK mix (tkp132 e)).trans ((Part.to envOK mix (tkp133 e)).trans ((Part.to envOK mix (tkp134 e)).trans ((Part.to envOK mix (tkp135 e)).trans ((Part.to envOK mix (tkp136 e)).trans ((Part.to envOK mix (tkp137 e)).trans ((Part.to envOK mix (tkp138 e)).trans ((Part.to envOK mix (tkp139 e)).trans ((Part.to envOK mix (tkp140 e)).trans ((Part.to envOK mix (tkp141 e)).trans ((Part.to envOK mix (tkp142 e)).trans ((Part.to envOK mix (tkp143 e)).trans ((Part.to envOK mix (tkp144 e)).trans ((Part.to envOK mix (tkp145 e)).trans ((Part.to envOK mix (tkp146 e)).trans ((Part.to envOK mix (tkp147 e)).trans ((Part.to envOK mix (tkp148 e)).trans ((Part.to envOK mix (tkp149 e)).trans ((Part.to envOK mix (tkp150 e)).trans ((Part.to envOK mix (tkp151 e)).trans ((Part.to envOK mix (tkp152 e)).trans ((Part.to envOK mix (tkp153 e)).trans ((Part.to envOK mix (tkp154 e)).trans ((Part.to envOK mix (tkp155 e)).trans ((Part.to envOK mix (tkp156 e)).trans ((Part.to envOK mix (tkp157 e)).trans ((Part.to envOK mix (tkp158 e)).trans ((Part.to envOK mix (tkp159 e)).trans ((Part.to envOK mix (tkp160 e)).trans ((Part.to envOK mix (tkp161 e)).trans ((Part.to envOK mix (tkp162 e)).trans ((Part.to envOK mix (tkp163 e)).trans ((Part.to envOK mix (tkp164 e)).trans ((Part.to envOK mix (tkp165 e)).trans ((Part.to envOK mix (tkp166 e)).trans ((Part.to envOK mix (tkp167 e)).trans ((Part.to envOK mix (tkp168 e)).trans (h)))))))))))))))))))))))))))))))))))))))))))))))))))))))))))))))))))))))))))))))))))))))))))))))))))))))))))))))))))))))))))))))))))))))))))))))))))))))))))))))))))))))))⟩
end Go.Proofs.YtkkhpackddlmpaaGreatDoor.Lv
