import Derived.Test.YtcgbbglhbbhpdaaGreatDoorPtmk0
import Derived.Test.YtcgbbglhbbhpdaaGreatDoorPtmk1
import Derived.Test.YtcgbbglhbbhpdaaGreatDoorPtmk2
import Derived.Test.YtcgbbglhbbhpdaaGreatDoorPtmk3
import Derived.Test.YtcgbbglhbbhpdaaGreatDoorPtmk4
import Derived.Test.YtcgbbglhbbhpdaaGreatDoorPtmk5
import Derived.Test.YtcgbbglhbbhpdaaGreatDoorPtmk6
import Derived.Test.YtcgbbglhbbhpdaaGreatDoorPtmk7
import Derived.Test.YtcgbbglhbbhpdaaGreatDoorPtmk8
import Derived.Test.YtcgbbglhbbhpdaaGreatDoorPtmk9
import Derived.Test.YtcgbbglhbbhpdaaGreatDoorPtmk10
import Derived.Test.YtcgbbglhbbhpdaaGreatDoorPtmk11
set_option maxRecDepth 100000
namespace Go.Proofs.YtcgbbglhbbhpdaaGreatDoor.Lv
open Go.Ev Go.Ev.Tx
theorem mklives : Lives 3 137 := fun e => by
  obtain ⟨H, h⟩ := Lives.last (mkp70 e)
  exact ⟨H, (KTo.part envOK mix (mkp0 e)).trans ((KTo.part envOK mix (mkp1 e)).trans ((KTo.part envOK mix (mkp2 e)).trans ((KTo.part envOK mix (mkp3 e)).trans ((KTo.part envOK mix (mkp4 e)).trans ((KTo.part envOK mix (mkp5 e)).trans ((KTo.part envOK mix (mkp6 e)).trans ((KTo.part envOK mix (mkp7 e)).trans ((KTo.part envOK mix (mkp8 e)).trans ((KTo.part envOK mix (mkp9 e)).trans ((KTo.part envOK mix (mkp10 e)).trans ((KTo.part envOK mix (mkp11 e)).trans ((KTo.part envOK mix (mkp12 e)).trans ((KTo.part envOK mix (mkp13 e)).trans ((KTo.part envOK mix (mkp14 e)).trans ((KTo.part envOK mix (mkp15 e)).trans ((KTo.part envOK mix (mkp16 e)).trans ((KTo.part envOK mix (mkp17 e)).trans ((KTo.part envOK mix (mkp18 e)).trans ((KTo.part envOK mix (mkp19 e)).trans ((KTo.part envOK mix (mkp20 e)).trans ((KTo.part envOK mix (mkp21 e)).trans ((KTo.part envOK mix (mkp22 e)).trans ((KTo.part envOK mix (mkp23 e)).trans ((KTo.part envOK mix (mkp24 e)).trans ((KTo.part envOK mix (mkp25 e)).trans ((KTo.part envOK mix (mkp26 e)).trans ((KTo.part envOK mix (mkp27 e)).trans ((KTo.part envOK mix (mkp28 e)).trans ((KTo.part envOK mix (mkp29 e)).trans ((KTo.part envOK mix (mkp30 e)).trans ((KTo.part envOK mix (mkp31 e)).trans ((KTo.part envOK mix (mkp32 e)).trans ((KTo.part envOK mix (mkp33 e)).trans ((KTo.part envOK mix (mkp34 e)).trans ((KTo.part envOK mix (mkp35 e)).trans ((KTo.part envOK mix (mkp36 e)).trans ((KTo.part envOK mix (mkp37 e)).trans ((KTo.part envOK mix (mkp38 e)).trans ((KTo.part envOK mix (mkp39 e)).trans ((KTo.part envOK mix (mkp40 e)).trans ((KTo.part envOK mix (mkp41 e)).trans ((KTo.part envOK mix (mkp42 e)).trans ((KTo.part envOK mix (mkp43 e)).trans ((KTo.part envOK mix (mkp44 e)).trans ((KTo.part envOK mix (mkp45 e)).trans ((KTo.part envOK mix (mkp46 e)).trans ((KTo.part envOK mix (mkp47 e)).trans ((KTo.part envOK mix (mkp48 e)).trans ((KTo.part envOK mix (mkp49 e)).trans ((KTo.part envOK mix (mkp50 e)).trans ((KTo.part envOK mix (mkp51 e)).trans ((KTo.part envOK mix (mkp52 e)).trans ((KTo.part envOK mix (mkp53 e)).trans ((KTo.part envOK mix (mkp54 e)).trans ((KTo.part envOK mix (mkp55 e)).trans ((KTo.part envOK mix (mkp56 e)).trans ((KTo.part envOK mix (mkp57 e)).trans ((KTo.part envOK mix (mkp58 e)).trans ((KTo.part envOK mix (mkp59 e)).trans ((KTo.part envOK mix (mkp60 e)).trans ((KTo.part envOK mix (mkp61 e)).trans ((KTo.part envOK mix (mkp62 e)).trans ((KTo.part envOK mix (mkp63 e)).trans ((KTo.part envOK mix (mkp64 e)).trans ((KTo.part envOK mix (mkp65 e)).trans ((KTo.part envOK mix (mkp66 e)).trans ((KTo.part envOK mix (mkp67 e)).trans ((KTo.part envOK mix (mkp68 e)).trans ((KTo.part envOK mix (mkp69 e)).trans (h))))))))))))))))))))))))))))))))))))))))))))))))))))))))))))))))))))))⟩
end Go.Proofs.YtcgbbglhbbhpdaaGreatDoor.Lv
