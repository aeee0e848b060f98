/-
  No cell of these rows narrows 'for every input' (looked for: loops, veiled, ifaces, maps, wideKeys, modest, calm, conditions, laid).
  DERIVED. THE GIVEN ROWS OF THIS SEAT. 3 by the template 'for every input the law returns true; each argument reads behind the call as it read before'; 0 by the template 'total and deterministic' (their statements: YtinllamocplgjaaTotals.lean).
  GIVEN WITH THE SEED: the statements are not yours to turn. If you find one false, say at which input.
  Laid BY PROGRAM, IN A SANDBOX (cutbox-rows.mjs): the forced cells as the released guide's own fill.sh prints them over the translation 0d000f076e629d00… (all of the seat's roots in one cut). By AI agents, Wed Nov 11 2026. No macro, syntax, notation, axiom, sorry.
-/
import Derived.Test.YtinllamocplgjaaChecked
import GoSem.Claim
import GoSem.ClaimJoined
import GoSem.ClaimMapViews
import Derived.JoinedTies
import Derived.KernelRfl
namespace Go.Proofs.Ytinllamocplgjaa
/- THE CELL 'sum', in the pinned program and in every row, IS THE sha256 OF THE DUMP (.gsa) THAT YtinllamocplgjaaProg.lean LOADS. Nothing in Lean hashes anything: it is a label: what it is worth is what the hold of that sum in a sandbox is worth. -/
noncomputable def Try.pinned : Pinned := { name := "ytinllamocplgjaa", sum := "0d000f076e629d0079f04fef03768f4f31a01edc34c8265fb40049aba221db0e", checked := Try.checked }
namespace Rows
def none {H : Type} : Left H := { results := [], args := [] }

/-- 'sleuthlaw06.ReduceChunks': WHATEVER THE INPUT: true; the input reads as it did. -/
def reduceChunksSpec : ChangeSpec := { name := "reduceChunks", fn := fun _ => fun
  | [d1, d2] => { results := [.lit (.bool true)], args := [d1, d2] }
  | _ => none }
def reduceChunksRow : OpenClaim := { program := "ytinllamocplgjaa", sum := "0d000f076e629d0079f04fef03768f4f31a01edc34c8265fb40049aba221db0e", func := "sleuth/sleuthlaw06.ReduceChunks", spec := "reduceChunks", unfollowed := true, recurses := true, apart := false }
def ReduceChunksSaid : Prop := reduceChunksRow.holds Try.pinned (OpenSpec.ofChange reduceChunksSpec)

/-- ITS FALSE NEIGHBOUR: 'it returns false'. Refute it at one input. -/
def reduceChunksWrong : ChangeSpec := { name := "reduceChunks", fn := fun _ => fun
  | [d1, d2] => { results := [.lit (.bool false)], args := [d1, d2] }
  | _ => none }
def ReduceChunksWrongFalsely : Prop := reduceChunksRow.holds Try.pinned (OpenSpec.ofChange reduceChunksWrong)

/-- 'sleuthlaw06.ReduceNormal': WHATEVER THE INPUT: true; the input reads as it did. -/
def reduceNormalSpec : ChangeSpec := { name := "reduceNormal", fn := fun _ => fun
  | [d1, d2] => { results := [.lit (.bool true)], args := [d1, d2] }
  | _ => none }
def reduceNormalRow : OpenClaim := { program := "ytinllamocplgjaa", sum := "0d000f076e629d0079f04fef03768f4f31a01edc34c8265fb40049aba221db0e", func := "sleuth/sleuthlaw06.ReduceNormal", spec := "reduceNormal", unfollowed := true, recurses := true, apart := false }
def ReduceNormalSaid : Prop := reduceNormalRow.holds Try.pinned (OpenSpec.ofChange reduceNormalSpec)

/-- ITS FALSE NEIGHBOUR: 'it returns false'. Refute it at one input. -/
def reduceNormalWrong : ChangeSpec := { name := "reduceNormal", fn := fun _ => fun
  | [d1, d2] => { results := [.lit (.bool false)], args := [d1, d2] }
  | _ => none }
def ReduceNormalWrongFalsely : Prop := reduceNormalRow.holds Try.pinned (OpenSpec.ofChange reduceNormalWrong)

/-- 'sleuthlaw06.ReduceClosed': WHATEVER THE INPUT: true; the input reads as it did. -/
def reduceClosedSpec : ChangeSpec := { name := "reduceClosed", fn := fun _ => fun
  | [d1, d2, d3, d4] => { results := [.lit (.bool true)], args := [d1, d2, d3, d4] }
  | _ => none }
def reduceClosedRow : OpenClaim := { program := "ytinllamocplgjaa", sum := "0d000f076e629d0079f04fef03768f4f31a01edc34c8265fb40049aba221db0e", func := "sleuth/sleuthlaw06.ReduceClosed", spec := "reduceClosed", unfollowed := true, recurses := true, apart := false }
def ReduceClosedSaid : Prop := reduceClosedRow.holds Try.pinned (OpenSpec.ofChange reduceClosedSpec)

/-- ITS FALSE NEIGHBOUR: 'it returns false'. Refute it at one input. -/
def reduceClosedWrong : ChangeSpec := { name := "reduceClosed", fn := fun _ => fun
  | [d1, d2, d3, d4] => { results := [.lit (.bool false)], args := [d1, d2, d3, d4] }
  | _ => none }
def ReduceClosedWrongFalsely : Prop := reduceClosedRow.holds Try.pinned (OpenSpec.ofChange reduceClosedWrong)

/- THE SECOND FORM. 'bulk': how many values and letters a reading holds, each counted each time it is reached (what is shared counts as often as it is met; a slice's spare places count too). A statement '..UptoSaid' is the law's where the arguments, and the package variables that the reading takes, are together of bulk at most 1048576: NARROWER than '..Said'. Prove '..Said' where nothing that the law and all that it calls make is longer than what came in: it says more and counts as full. Else prove '..UptoSaid'. A law counts once. -/
mutual
def uptoBulk {H : Type} : DataW H → Nat
  | .lit (.string bytes) => bytes.length + 1
  | .lit _ => 1
  | .nil => 1
  | .ptr d => uptoBulk d + 1
  | .slice elems spare => uptoBulkAll elems + uptoBulkAll spare + 1
  | .agg parts => uptoBulkAll parts + 1
  | .iface _ d => uptoBulk d + 1
  | .map entries => uptoBulkEntries entries + 1
  | .held _ => 1
def uptoBulkAll {H : Type} : List (DataW H) → Nat
  | [] => 0
  | d :: r => uptoBulk d + uptoBulkAll r
def uptoBulkEntries {H : Type} : List (Lit × DataW H) → Nat
  | [] => 0
  | x :: r => uptoBulkEntry x + uptoBulkEntries r
def uptoBulkEntry {H : Type} : Lit × DataW H → Nat
  | (.string bytes, d) => bytes.length + uptoBulk d + 1
  | (_, d) => uptoBulk d + 1
 end
def uptoSmall : (H : Type) → List (DataW H) → Bool := fun _ ds => decide (uptoBulkAll ds ≤ 1048576)
def OpenSpec.upto (s : _root_.Go.ChangeSpec) : _root_.Go.OpenSpec := { _root_.Go.OpenSpec.ofChange s with cond := some uptoSmall }

/-- 'sleuthlaw06.ReduceChunks', WHERE WHAT IT READS IS OF BULK AT MOST 1048576: true; the input reads as it did. -/
def reduceChunksUptoRow : OpenClaim := { program := "ytinllamocplgjaa", sum := "0d000f076e629d0079f04fef03768f4f31a01edc34c8265fb40049aba221db0e", func := "sleuth/sleuthlaw06.ReduceChunks", spec := "reduceChunks", unfollowed := true, recurses := true, apart := false, narrowed := true }
def ReduceChunksUptoSaid : Prop := reduceChunksUptoRow.holds Try.pinned (OpenSpec.upto reduceChunksSpec)

/-- 'sleuthlaw06.ReduceNormal', WHERE WHAT IT READS IS OF BULK AT MOST 1048576: true; the input reads as it did. -/
def reduceNormalUptoRow : OpenClaim := { program := "ytinllamocplgjaa", sum := "0d000f076e629d0079f04fef03768f4f31a01edc34c8265fb40049aba221db0e", func := "sleuth/sleuthlaw06.ReduceNormal", spec := "reduceNormal", unfollowed := true, recurses := true, apart := false, narrowed := true }
def ReduceNormalUptoSaid : Prop := reduceNormalUptoRow.holds Try.pinned (OpenSpec.upto reduceNormalSpec)

/-- 'sleuthlaw06.ReduceClosed', WHERE WHAT IT READS IS OF BULK AT MOST 1048576: true; the input reads as it did. -/
def reduceClosedUptoRow : OpenClaim := { program := "ytinllamocplgjaa", sum := "0d000f076e629d0079f04fef03768f4f31a01edc34c8265fb40049aba221db0e", func := "sleuth/sleuthlaw06.ReduceClosed", spec := "reduceClosed", unfollowed := true, recurses := true, apart := false, narrowed := true }
def ReduceClosedUptoSaid : Prop := reduceClosedUptoRow.holds Try.pinned (OpenSpec.upto reduceClosedSpec)

end Rows
end Go.Proofs.Ytinllamocplgjaa
