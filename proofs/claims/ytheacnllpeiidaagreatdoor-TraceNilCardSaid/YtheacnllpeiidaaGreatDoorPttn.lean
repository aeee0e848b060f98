import Derived.Test.YtheacnllpeiidaaGreatDoorPttn0
import Derived.Test.YtheacnllpeiidaaGreatDoorPttn1
import Derived.Test.YtheacnllpeiidaaGreatDoorPttn2
import Derived.Test.YtheacnllpeiidaaGreatDoorPttn3
import Derived.Test.YtheacnllpeiidaaGreatDoorPttn4
import Derived.Test.YtheacnllpeiidaaGreatDoorPttn5
import Derived.Test.YtheacnllpeiidaaGreatDoorPttn6
import Derived.Test.YtheacnllpeiidaaGreatDoorPttn7
set_option maxRecDepth 100000
namespace Go.Proofs.YtheacnllpeiidaaGreatDoor.Lv
open Go.Ev Go.Ev.Tx
theorem tnlives : Lives 3 11 := fun e => by
  obtain ⟨H, h⟩ := Lives.last (tnp39 e)
  exact ⟨H, (KTo.part envOK mix (tnp0 e)).trans ((KTo.part envOK mix (tnp1 e)).trans ((KTo.part envOK mix (tnp2 e)).trans ((KTo.part envOK mix (tnp3 e)).trans ((KTo.part envOK mix (tnp4 e)).trans ((KTo.part envOK mix (tnp5 e)).trans ((KTo.part envOK mix (tnp6 e)).trans ((KTo.part envOK mix (tnp7 e)).trans ((KTo.part envOK mix (tnp8 e)).trans ((KTo.part envOK mix (tnp9 e)).trans ((KTo.part envOK mix (tnp10 e)).trans ((KTo.part envOK mix (tnp11 e)).trans ((KTo.part envOK mix (tnp12 e)).trans ((KTo.part envOK mix (tnp13 e)).trans ((KTo.part envOK mix (tnp14 e)).trans ((KTo.part envOK mix (tnp15 e)).trans ((KTo.part envOK mix (tnp16 e)).trans ((KTo.part envOK mix (tnp17 e)).trans ((KTo.part envOK mix (tnp18 e)).trans ((KTo.part envOK mix (tnp19 e)).trans ((KTo.part envOK mix (tnp20 e)).trans ((KTo.part envOK mix (tnp21 e)).trans ((KTo.part envOK mix (tnp22 e)).trans ((KTo.part envOK mix (tnp23 e)).trans ((KTo.part envOK mix (tnp24 e)).trans ((KTo.part envOK mix (tnp25 e)).trans ((KTo.part envOK mix (tnp26 e)).trans ((KTo.part envOK mix (tnp27 e)).trans ((KTo.part envOK mix (tnp28 e)).trans ((KTo.part envOK mix (tnp29 e)).trans ((KTo.part envOK mix (tnp30 e)).trans ((KTo.part envOK mix (tnp31 e)).trans ((KTo.part envOK mix (tnp32 e)).trans ((KTo.part envOK mix (tnp33 e)).trans ((KTo.part envOK mix (tnp34 e)).trans ((KTo.part envOK mix (tnp35 e)).trans ((KTo.part envOK mix (tnp36 e)).trans ((KTo.part envOK mix (tnp37 e)).trans ((KTo.part envOK mix (tnp38 e)).trans (h)))))))))))))))))))))))))))))))))))))))⟩
end Go.Proofs.YtheacnllpeiidaaGreatDoor.Lv
