import Derived.Test.YtkcjdmhcneapcaaGreatDoorNilA
set_option maxRecDepth 100000
namespace Go.Proofs.YtkcjdmhcneapcaaGreatDoor.Nil
open Go.Ev
/-- The chapter's example comes to true. -/
theorem run_lives (e : TypeId) : isTrue 7 ((startK E 7 [] (H0 e)).bind (kgo E 30000)) = true := by kernel_rfl
end Go.Proofs.YtkcjdmhcneapcaaGreatDoor.Nil
