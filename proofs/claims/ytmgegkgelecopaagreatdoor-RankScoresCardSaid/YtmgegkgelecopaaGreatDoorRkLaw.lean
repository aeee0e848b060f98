import Derived.Test.YtmgegkgelecopaaGreatDoorRkE
import Derived.ProofKit
import Derived.OpenShut
set_option maxRecDepth 100000
namespace Go.Proofs.YtmgegkgelecopaaGreatDoor.Rk
open Go Go.Ms Go.Pg Go.Rk Go.ChangeShapes Go.WideShapes Go.ChangeAt Go.RowKit Go.Deep

theorem i64_of {k : Int} (h : WfI .i64 k) : I64 k := by
  simp [WfI, Lit.wf, IntKind.min, IntKind.max, IntKind.signed, IntKind.bits] at h
  omega
theorem lawRankOrder {n d m e k f : Int} (hn : I64 n) (hd : I64 d) (hm : I64 m) (he : I64 e) (hk : I64 k) (hf : I64 f) {x : Obj} {w : World} (h0 : w.heap[0]? = some x) (hR : Ranks x) :
    Calls Tryz.prog 4 #[rat n d, rat m e, rat k f] w fun r w' => r = .returned (.bool true) ∧ Below w.heap.size w w' := order4 n d m e k f hn hd hm he hk hf h0 hR
end Go.Proofs.YtmgegkgelecopaaGreatDoor.Rk
