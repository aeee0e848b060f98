import Derived.Test.YtkcjdmhcneapcaaGreatDoorChecked
import Derived.WalkKit
import Derived.ProofKit
import Derived.OpenShut
import Derived.Handy
set_option maxRecDepth 100000
namespace Go.Proofs.YtkcjdmhcneapcaaGreatDoor.Bin
open Go.ChangeShapes Go.WideShapes Go.ChangeAt Go.RowKit

def num (n : Int) : Value := .agg #[.int .u8 0, .int .i64 n]
theorem cells24 : Tryz.prog.cellsOf 24 = 2 := by kernel_rfl

theorem number (n : Int) (w : World) : Calls Tryz.prog 28 #[.int .i64 n] w fun e w' => e = .returned (num n) ∧ Grown w w' := by
  go_enter Tryz.func28, Tryz.ntmps28
  go_wp2
  all_goals go_returns
  all_goals exact ⟨rfl, by go_grown⟩

theorem truth10 (b : Bool) (w : World) : Calls Tryz.prog 10 #[.bool b] w fun e w' => e = .returned (num (if b then 1 else 0)) ∧ Grown w w' := by
  cases b
  all_goals go_enter Tryz.func10, Tryz.ntmps10
  all_goals go_wp2
  all_goals go_returns
  all_goals exact ⟨rfl, by go_grown⟩
theorem truth13 (b : Bool) (w : World) : Calls Tryz.prog 13 #[.bool b] w fun e w' => e = .returned (num (if b then 1 else 0)) ∧ Grown w w' := by
  cases b
  all_goals go_enter Tryz.func13, Tryz.ntmps13
  all_goals go_wp2
  all_goals go_returns
  all_goals exact ⟨rfl, by go_grown⟩
theorem isNumber (k n : Int) (w : World) : Calls Tryz.prog 11 #[.agg #[.int .u8 k, .int .i64 n]] w fun e w' => e = .returned (.bool (k == 0)) ∧ Grown w w' := by
  go_enter Tryz.func11, Tryz.ntmps11
  go_wp2
  all_goals go_ret
  all_goals exact ⟨rfl, by go_grown⟩
/-- The law at some arguments: where block 0 holds what it holds, and the chapter's example comes to true as long as it does. -/
def Law (op ka na kb nb : Int) : Prop := ∀ (w : World) (x : Obj), w.heap[0]? = some x → (∀ (w2 : World), w2.heap[0]? = some x → Calls Tryz.prog 7 #[] w2 fun e w' => e = .returned (.bool true) ∧ Below w2.heap.size w2 w') →
  Calls Tryz.prog 3 #[.int .i64 op, .agg #[.int .u8 ka, .int .i64 na], .agg #[.int .u8 kb, .int .i64 nb]] w fun e w' => e = .returned (.bool true) ∧ Below w.heap.size w w'
end Go.Proofs.YtkcjdmhcneapcaaGreatDoor.Bin
