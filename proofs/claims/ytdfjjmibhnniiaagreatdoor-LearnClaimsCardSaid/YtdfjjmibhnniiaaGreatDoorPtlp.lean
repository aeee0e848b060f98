import Derived.Test.YtdfjjmibhnniiaaGreatDoorPtlp0
import Derived.Test.YtdfjjmibhnniiaaGreatDoorPtlp1
set_option maxRecDepth 100000
namespace Go.Proofs.YtdfjjmibhnniiaaGreatDoor.Lv
open Go.Ev Go.Ev.Tx
theorem lplives : Lives 9 85 := fun e => by
  obtain ⟨H, h⟩ := Lives.last (lpp3 e)
  exact ⟨H, (Part.to envOK mix (lpp0 e)).trans ((Part.to envOK mix (lpp1 e)).trans ((Part.to envOK mix (lpp2 e)).trans (h)))⟩
end Go.Proofs.YtdfjjmibhnniiaaGreatDoor.Lv
