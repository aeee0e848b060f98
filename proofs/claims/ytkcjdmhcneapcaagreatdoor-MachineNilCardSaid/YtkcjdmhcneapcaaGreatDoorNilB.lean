import Derived.Test.YtkcjdmhcneapcaaGreatDoorNilA
set_option maxRecDepth 100000
namespace Go.Proofs.YtkcjdmhcneapcaaGreatDoor.Nil
open Go.Ev
theorem run_nil (e : TypeId) : isTrue 4 ((startK E 4 [] (H0 e)).bind (kgo E 30000)) = true := by kernel_rfl
end Go.Proofs.YtkcjdmhcneapcaaGreatDoor.Nil
