import Derived.Test.YtmflbcfphlmfjaaGreatDoorPtrk8
import Derived.Test.YtmflbcfphlmfjaaGreatDoorPtrk0
import Derived.Test.YtmflbcfphlmfjaaGreatDoorPtrk1
import Derived.Test.YtmflbcfphlmfjaaGreatDoorPtrk2
import Derived.Test.YtmflbcfphlmfjaaGreatDoorPtrk3
import Derived.Test.YtmflbcfphlmfjaaGreatDoorPtrk4
import Derived.Test.YtmflbcfphlmfjaaGreatDoorPtrk5
import Derived.Test.YtmflbcfphlmfjaaGreatDoorPtrk6
set_option maxRecDepth 100000
namespace Go.Proofs.YtmflbcfphlmfjaaGreatDoor.Lv
open Go.Ev Go.Ev.Tx
theorem rkq13 (e : TypeId) : KV E 1 206 85 (rkst13 e) [] (rkst14 e) := KV.of envOK mix (rkp13 e)
theorem rkqq13 (e : TypeId) : KTo E (rkst13 e) (rkst14 e) := KV.done envOK mix (rkq13 e)
theorem rkqq27 (e : TypeId) : KTo E (rkst27 e) (rkst28 e) := (KTo.part envOK mix (rkp27x0 e)).trans ((KTo.part envOK mix (rkp27x1 e)).trans ((KTo.part envOK mix (rkp27x2 e)).trans (KTo.part envOK mix (rkp27x3 e))))
theorem rkqq29 (e : TypeId) : KTo E (rkst29 e) (rkst30 e) := (KTo.part envOK mix (rkp29x0 e)).trans ((KTo.part envOK mix (rkp29x1 e)).trans ((KTo.part envOK mix (rkp29x2 e)).trans ((KTo.part envOK mix (rkp29x3 e)).trans (KTo.part envOK mix (rkp29x4 e)))))
theorem rklives : Lives 4 250 := fun e => by
  obtain ⟨H, h⟩ := Lives.last (rkp48 e)
  exact ⟨H, (KTo.part envOK mix (rkp0 e)).trans ((KTo.part envOK mix (rkp1 e)).trans ((KTo.part envOK mix (rkp2 e)).trans ((KTo.part envOK mix (rkp3 e)).trans ((KTo.part envOK mix (rkp4 e)).trans ((KTo.part envOK mix (rkp5 e)).trans ((KTo.part envOK mix (rkp6 e)).trans ((KTo.part envOK mix (rkp7 e)).trans ((KTo.part envOK mix (rkp8 e)).trans ((KTo.part envOK mix (rkp9 e)).trans ((KTo.part envOK mix (rkp10 e)).trans ((KTo.part envOK mix (rkp11 e)).trans ((KTo.part envOK mix (rkp12 e)).trans ((rkqq13 e).trans ((KTo.part envOK mix (rkp14 e)).trans ((KTo.part envOK mix (rkp15 e)).trans ((KTo.part envOK mix (rkp16 e)).trans ((KTo.part envOK mix (rkp17 e)).trans ((KTo.part envOK mix (rkp18 e)).trans ((KTo.part envOK mix (rkp19 e)).trans ((KTo.part envOK mix (rkp20 e)).trans ((KTo.part envOK mix (rkp21 e)).trans ((KTo.part envOK mix (rkp22 e)).trans ((KTo.part envOK mix (rkp23 e)).trans ((KTo.part envOK mix (rkp24 e)).trans ((KTo.part envOK mix (rkp25 e)).trans ((KTo.part envOK mix (rkp26 e)).trans ((rkqq27 e).trans ((KTo.part envOK mix (rkp28 e)).trans ((rkqq29 e).trans ((KTo.part envOK mix (rkp30 e)).trans ((KTo.part envOK mix (rkp31 e)).trans ((KTo.part envOK mix (rkp32 e)).trans ((KTo.part envOK mix (rkp33 e)).trans ((KTo.part envOK mix (rkp34 e)).trans ((KTo.part envOK mix (rkp35 e)).trans ((KTo.part envOK mix (rkp36 e)).trans ((KTo.part envOK mix (rkp37 e)).trans ((KTo.part envOK mix (rkp38 e)).trans ((KTo.part envOK mix (rkp39 e)).trans ((KTo.part envOK mix (rkp40 e)).trans ((KTo.part envOK mix (rkp41 e)).trans ((KTo.part envOK mix (rkp42 e)).trans ((KTo.part envOK mix (rkp43 e)).trans ((KTo.part envOK mix (rkp44 e)).trans ((KTo.part envOK mix (rkp45 e)).trans ((KTo.part envOK mix (rkp46 e)).trans ((KTo.part envOK mix (rkp47 e)).trans (h))))))))))))))))))))))))))))))))))))))))))))))))⟩
end Go.Proofs.YtmflbcfphlmfjaaGreatDoor.Lv
