/-
  No cell of these rows narrows 'for every input' (looked for: loops, veiled, ifaces, maps, wideKeys, modest, calm, conditions, laid).
  DERIVED. THE GIVEN ROWS OF THIS SEAT. 3 by the template 'for every input the law returns true; each argument reads behind the call as it read before'; 0 by the template 'total and deterministic' (their statements: YtdpgcoicbagflaaTotals.lean).
  GIVEN WITH THE SEED: the statements are not yours to turn. If you find one false, say at which input.
  Laid BY PROGRAM, IN A SANDBOX (cutbox-rows.mjs): the forced cells as the released guide's own fill.sh prints them over the translation bded9aa547c175e8… (all of the seat's roots in one cut). By AI agents, Wed Nov 11 2026. No macro, syntax, notation, axiom, sorry.
-/
import Derived.Test.YtdpgcoicbagflaaChecked
import GoSem.Claim
import GoSem.ClaimJoined
import GoSem.ClaimMapViews
import Derived.JoinedTies
import Derived.KernelRfl
namespace Go.Proofs.Ytdpgcoicbagflaa
/- THE CELL 'sum', in the pinned program and in every row, IS THE sha256 OF THE DUMP (.gsa) THAT YtdpgcoicbagflaaProg.lean LOADS. Nothing in Lean hashes anything: it is a label: what it is worth is what the hold of that sum in a sandbox is worth. -/
noncomputable def Try.pinned : Pinned := { name := "ytdpgcoicbagflaa", sum := "bded9aa547c175e8d3b4ef1ddf51ba79b4a39ab429acf4c2c9665a5b1a8e50ed", checked := Try.checked }
namespace Rows
def none {H : Type} : Left H := { results := [], args := [] }

/-- 'sleuthlaw06.ReduceBisects': WHATEVER THE INPUT: true; the input reads as it did. -/
def reduceBisectsSpec : ChangeSpec := { name := "reduceBisects", fn := fun _ => fun
  | [d1, d2, d3] => { results := [.lit (.bool true)], args := [d1, d2, d3] }
  | _ => none }
def reduceBisectsRow : OpenClaim := { program := "ytdpgcoicbagflaa", sum := "bded9aa547c175e8d3b4ef1ddf51ba79b4a39ab429acf4c2c9665a5b1a8e50ed", func := "sleuth/sleuthlaw06.ReduceBisects", spec := "reduceBisects", unfollowed := true, recurses := true, apart := false }
def ReduceBisectsSaid : Prop := reduceBisectsRow.holds Try.pinned (OpenSpec.ofChange reduceBisectsSpec)

/-- ITS FALSE NEIGHBOUR: 'it returns false'. Refute it at one input. -/
def reduceBisectsWrong : ChangeSpec := { name := "reduceBisects", fn := fun _ => fun
  | [d1, d2, d3] => { results := [.lit (.bool false)], args := [d1, d2, d3] }
  | _ => none }
def ReduceBisectsWrongFalsely : Prop := reduceBisectsRow.holds Try.pinned (OpenSpec.ofChange reduceBisectsWrong)

/-- 'sleuthlaw06.ReduceBisectEnds': WHATEVER THE INPUT: true; the input reads as it did. -/
def reduceBisectEndsSpec : ChangeSpec := { name := "reduceBisectEnds", fn := fun _ => fun
  | [d1, d2] => { results := [.lit (.bool true)], args := [d1, d2] }
  | _ => none }
def reduceBisectEndsRow : OpenClaim := { program := "ytdpgcoicbagflaa", sum := "bded9aa547c175e8d3b4ef1ddf51ba79b4a39ab429acf4c2c9665a5b1a8e50ed", func := "sleuth/sleuthlaw06.ReduceBisectEnds", spec := "reduceBisectEnds", unfollowed := true, recurses := true, apart := false }
def ReduceBisectEndsSaid : Prop := reduceBisectEndsRow.holds Try.pinned (OpenSpec.ofChange reduceBisectEndsSpec)

/-- ITS FALSE NEIGHBOUR: 'it returns false'. Refute it at one input. -/
def reduceBisectEndsWrong : ChangeSpec := { name := "reduceBisectEnds", fn := fun _ => fun
  | [d1, d2] => { results := [.lit (.bool false)], args := [d1, d2] }
  | _ => none }
def ReduceBisectEndsWrongFalsely : Prop := reduceBisectEndsRow.holds Try.pinned (OpenSpec.ofChange reduceBisectEndsWrong)

/-- 'sleuthlaw06.ReduceRemovable': WHATEVER THE INPUT: true; the input reads as it did. -/
def reduceRemovableSpec : ChangeSpec := { name := "reduceRemovable", fn := fun _ => fun
  | [d1, d2] => { results := [.lit (.bool true)], args := [d1, d2] }
  | _ => none }
def reduceRemovableRow : OpenClaim := { program := "ytdpgcoicbagflaa", sum := "bded9aa547c175e8d3b4ef1ddf51ba79b4a39ab429acf4c2c9665a5b1a8e50ed", func := "sleuth/sleuthlaw06.ReduceRemovable", spec := "reduceRemovable", unfollowed := true, recurses := true, apart := false }
def ReduceRemovableSaid : Prop := reduceRemovableRow.holds Try.pinned (OpenSpec.ofChange reduceRemovableSpec)

/-- ITS FALSE NEIGHBOUR: 'it returns false'. Refute it at one input. -/
def reduceRemovableWrong : ChangeSpec := { name := "reduceRemovable", fn := fun _ => fun
  | [d1, d2] => { results := [.lit (.bool false)], args := [d1, d2] }
  | _ => none }
def ReduceRemovableWrongFalsely : Prop := reduceRemovableRow.holds Try.pinned (OpenSpec.ofChange reduceRemovableWrong)

/- THE SECOND FORM. 'bulk': how many values and letters a reading holds, each counted each time it is reached (what is shared counts as often as it is met; a slice's spare places count too). A statement '..UptoSaid' is the law's where the arguments, and the package variables that the reading takes, are together of bulk at most 1048576: NARROWER than '..Said'. Prove '..Said' where nothing that the law and all that it calls make is longer than what came in: it says more and counts as full. Else prove '..UptoSaid'. A law counts once. -/
mutual
def uptoBulk {H : Type} : DataW H → Nat
  | .lit (.string bytes) => bytes.length + 1
  | .lit _ => 1
  | .nil => 1
  | .ptr d => uptoBulk d + 1
  | .slice elems spare => uptoBulkAll elems + uptoBulkAll spare + 1
  | .agg parts => uptoBulkAll parts + 1
  | .iface _ d => uptoBulk d + 1
  | .map entries => uptoBulkEntries entries + 1
  | .held _ => 1
def uptoBulkAll {H : Type} : List (DataW H) → Nat
  | [] => 0
  | d :: r => uptoBulk d + uptoBulkAll r
def uptoBulkEntries {H : Type} : List (Lit × DataW H) → Nat
  | [] => 0
  | x :: r => uptoBulkEntry x + uptoBulkEntries r
def uptoBulkEntry {H : Type} : Lit × DataW H → Nat
  | (.string bytes, d) => bytes.length + uptoBulk d + 1
  | (_, d) => uptoBulk d + 1
 end
def uptoSmall : (H : Type) → List (DataW H) → Bool := fun _ ds => decide (uptoBulkAll ds ≤ 1048576)
def OpenSpec.upto (s : _root_.Go.ChangeSpec) : _root_.Go.OpenSpec := { _root_.Go.OpenSpec.ofChange s with cond := some uptoSmall }

/-- 'sleuthlaw06.ReduceBisects', WHERE WHAT IT READS IS OF BULK AT MOST 1048576: true; the input reads as it did. -/
def reduceBisectsUptoRow : OpenClaim := { program := "ytdpgcoicbagflaa", sum := "bded9aa547c175e8d3b4ef1ddf51ba79b4a39ab429acf4c2c9665a5b1a8e50ed", func := "sleuth/sleuthlaw06.ReduceBisects", spec := "reduceBisects", unfollowed := true, recurses := true, apart := false, narrowed := true }
def ReduceBisectsUptoSaid : Prop := reduceBisectsUptoRow.holds Try.pinned (OpenSpec.upto reduceBisectsSpec)

/-- 'sleuthlaw06.ReduceBisectEnds', WHERE WHAT IT READS IS OF BULK AT MOST 1048576: true; the input reads as it did. -/
def reduceBisectEndsUptoRow : OpenClaim := { program := "ytdpgcoicbagflaa", sum := "bded9aa547c175e8d3b4ef1ddf51ba79b4a39ab429acf4c2c9665a5b1a8e50ed", func := "sleuth/sleuthlaw06.ReduceBisectEnds", spec := "reduceBisectEnds", unfollowed := true, recurses := true, apart := false, narrowed := true }
def ReduceBisectEndsUptoSaid : Prop := reduceBisectEndsUptoRow.holds Try.pinned (OpenSpec.upto reduceBisectEndsSpec)

/-- 'sleuthlaw06.ReduceRemovable', WHERE WHAT IT READS IS OF BULK AT MOST 1048576: true; the input reads as it did. -/
def reduceRemovableUptoRow : OpenClaim := { program := "ytdpgcoicbagflaa", sum := "bded9aa547c175e8d3b4ef1ddf51ba79b4a39ab429acf4c2c9665a5b1a8e50ed", func := "sleuth/sleuthlaw06.ReduceRemovable", spec := "reduceRemovable", unfollowed := true, recurses := true, apart := false, narrowed := true }
def ReduceRemovableUptoSaid : Prop := reduceRemovableUptoRow.holds Try.pinned (OpenSpec.upto reduceRemovableSpec)

end Rows
end Go.Proofs.Ytdpgcoicbagflaa
