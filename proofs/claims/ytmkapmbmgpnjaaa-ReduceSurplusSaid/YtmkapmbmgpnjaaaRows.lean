/-
  No cell of these rows narrows 'for every input' (looked for: loops, veiled, ifaces, maps, wideKeys, modest, calm, conditions, laid).
  DERIVED. THE GIVEN ROWS OF THIS SEAT. 12 by the template 'for every input the law returns true; each argument reads behind the call as it read before'; 0 by the template 'total and deterministic' (their statements: YtmkapmbmgpnjaaaTotals.lean).
  GIVEN WITH THE SEED: the statements are not yours to turn. If you find one false, say at which input.
  Laid BY PROGRAM, IN A SANDBOX (cutbox-rows.mjs): the forced cells as the released guide's own fill.sh prints them over the translation 86fae9a118ff920b… (all of the seat's roots in one cut). By AI agents, Wed Nov 11 2026. No macro, syntax, notation, axiom, sorry.
-/
import Derived.Test.YtmkapmbmgpnjaaaChecked
import GoSem.Claim
import GoSem.ClaimJoined
import GoSem.ClaimMapViews
import Derived.JoinedTies
import Derived.KernelRfl
namespace Go.Proofs.Ytmkapmbmgpnjaaa
/- THE CELL 'sum', in the pinned program and in every row, IS THE sha256 OF THE DUMP (.gsa) THAT YtmkapmbmgpnjaaaProg.lean LOADS. Nothing in Lean hashes anything: it is a label: what it is worth is what the hold of that sum in a sandbox is worth. -/
noncomputable def Try.pinned : Pinned := { name := "ytmkapmbmgpnjaaa", sum := "86fae9a118ff920be2d8ae07dd672a572ba1be81f6d26a16e1c7fd88e3909eb6", checked := Try.checked }
namespace Rows
def none {H : Type} : Left H := { results := [], args := [] }

/-- 'sleuthlaw06.ReduceCulprit': WHATEVER THE INPUT: true; the input reads as it did. -/
def reduceCulpritSpec : ChangeSpec := { name := "reduceCulprit", fn := fun _ => fun
  | [d1, d2, d3, d4] => { results := [.lit (.bool true)], args := [d1, d2, d3, d4] }
  | _ => none }
def reduceCulpritRow : OpenClaim := { program := "ytmkapmbmgpnjaaa", sum := "86fae9a118ff920be2d8ae07dd672a572ba1be81f6d26a16e1c7fd88e3909eb6", func := "sleuth/sleuthlaw06.ReduceCulprit", spec := "reduceCulprit", unfollowed := true, recurses := true, apart := false }
def ReduceCulpritSaid : Prop := reduceCulpritRow.holds Try.pinned (OpenSpec.ofChange reduceCulpritSpec)

/-- ITS FALSE NEIGHBOUR: 'it returns false'. Refute it at one input. -/
def reduceCulpritWrong : ChangeSpec := { name := "reduceCulprit", fn := fun _ => fun
  | [d1, d2, d3, d4] => { results := [.lit (.bool false)], args := [d1, d2, d3, d4] }
  | _ => none }
def ReduceCulpritWrongFalsely : Prop := reduceCulpritRow.holds Try.pinned (OpenSpec.ofChange reduceCulpritWrong)

/-- 'sleuthlaw06.ReduceHistories': WHATEVER THE INPUT: true; the input reads as it did. -/
def reduceHistoriesSpec : ChangeSpec := { name := "reduceHistories", fn := fun _ => fun
  | [d1, d2, d3, d4, d5, d6, d7] => { results := [.lit (.bool true)], args := [d1, d2, d3, d4, d5, d6, d7] }
  | _ => none }
def reduceHistoriesRow : OpenClaim := { program := "ytmkapmbmgpnjaaa", sum := "86fae9a118ff920be2d8ae07dd672a572ba1be81f6d26a16e1c7fd88e3909eb6", func := "sleuth/sleuthlaw06.ReduceHistories", spec := "reduceHistories", unfollowed := true, recurses := true, apart := false }
def ReduceHistoriesSaid : Prop := reduceHistoriesRow.holds Try.pinned (OpenSpec.ofChange reduceHistoriesSpec)

/-- ITS FALSE NEIGHBOUR: 'it returns false'. Refute it at one input. -/
def reduceHistoriesWrong : ChangeSpec := { name := "reduceHistories", fn := fun _ => fun
  | [d1, d2, d3, d4, d5, d6, d7] => { results := [.lit (.bool false)], args := [d1, d2, d3, d4, d5, d6, d7] }
  | _ => none }
def ReduceHistoriesWrongFalsely : Prop := reduceHistoriesRow.holds Try.pinned (OpenSpec.ofChange reduceHistoriesWrong)

/-- 'sleuthlaw06.ReduceChangesMinimal': WHATEVER THE INPUT: true; the input reads as it did. -/
def reduceChangesMinimalSpec : ChangeSpec := { name := "reduceChangesMinimal", fn := fun _ => fun
  | [d1, d2] => { results := [.lit (.bool true)], args := [d1, d2] }
  | _ => none }
def reduceChangesMinimalRow : OpenClaim := { program := "ytmkapmbmgpnjaaa", sum := "86fae9a118ff920be2d8ae07dd672a572ba1be81f6d26a16e1c7fd88e3909eb6", func := "sleuth/sleuthlaw06.ReduceChangesMinimal", spec := "reduceChangesMinimal", unfollowed := true, recurses := true, apart := false }
def ReduceChangesMinimalSaid : Prop := reduceChangesMinimalRow.holds Try.pinned (OpenSpec.ofChange reduceChangesMinimalSpec)

/-- ITS FALSE NEIGHBOUR: 'it returns false'. Refute it at one input. -/
def reduceChangesMinimalWrong : ChangeSpec := { name := "reduceChangesMinimal", fn := fun _ => fun
  | [d1, d2] => { results := [.lit (.bool false)], args := [d1, d2] }
  | _ => none }
def ReduceChangesMinimalWrongFalsely : Prop := reduceChangesMinimalRow.holds Try.pinned (OpenSpec.ofChange reduceChangesMinimalWrong)

/-- 'sleuthlaw06.ReduceNeeds': WHATEVER THE INPUT: true; the input reads as it did. -/
def reduceNeedsSpec : ChangeSpec := { name := "reduceNeeds", fn := fun _ => fun
  | [d1, d2, d3, d4] => { results := [.lit (.bool true)], args := [d1, d2, d3, d4] }
  | _ => none }
def reduceNeedsRow : OpenClaim := { program := "ytmkapmbmgpnjaaa", sum := "86fae9a118ff920be2d8ae07dd672a572ba1be81f6d26a16e1c7fd88e3909eb6", func := "sleuth/sleuthlaw06.ReduceNeeds", spec := "reduceNeeds", unfollowed := true, recurses := true, apart := false }
def ReduceNeedsSaid : Prop := reduceNeedsRow.holds Try.pinned (OpenSpec.ofChange reduceNeedsSpec)

/-- ITS FALSE NEIGHBOUR: 'it returns false'. Refute it at one input. -/
def reduceNeedsWrong : ChangeSpec := { name := "reduceNeeds", fn := fun _ => fun
  | [d1, d2, d3, d4] => { results := [.lit (.bool false)], args := [d1, d2, d3, d4] }
  | _ => none }
def ReduceNeedsWrongFalsely : Prop := reduceNeedsRow.holds Try.pinned (OpenSpec.ofChange reduceNeedsWrong)

/-- 'sleuthlaw06.ReduceIsolated': WHATEVER THE INPUT: true; the input reads as it did. -/
def reduceIsolatedSpec : ChangeSpec := { name := "reduceIsolated", fn := fun _ => fun
  | [d1, d2] => { results := [.lit (.bool true)], args := [d1, d2] }
  | _ => none }
def reduceIsolatedRow : OpenClaim := { program := "ytmkapmbmgpnjaaa", sum := "86fae9a118ff920be2d8ae07dd672a572ba1be81f6d26a16e1c7fd88e3909eb6", func := "sleuth/sleuthlaw06.ReduceIsolated", spec := "reduceIsolated", unfollowed := true, recurses := true, apart := false }
def ReduceIsolatedSaid : Prop := reduceIsolatedRow.holds Try.pinned (OpenSpec.ofChange reduceIsolatedSpec)

/-- ITS FALSE NEIGHBOUR: 'it returns false'. Refute it at one input. -/
def reduceIsolatedWrong : ChangeSpec := { name := "reduceIsolated", fn := fun _ => fun
  | [d1, d2] => { results := [.lit (.bool false)], args := [d1, d2] }
  | _ => none }
def ReduceIsolatedWrongFalsely : Prop := reduceIsolatedRow.holds Try.pinned (OpenSpec.ofChange reduceIsolatedWrong)

/-- 'sleuthlaw06.ReduceMinimal': WHATEVER THE INPUT: true; the input reads as it did. -/
def reduceMinimalSpec : ChangeSpec := { name := "reduceMinimal", fn := fun _ => fun
  | [d1, d2, d3] => { results := [.lit (.bool true)], args := [d1, d2, d3] }
  | _ => none }
def reduceMinimalRow : OpenClaim := { program := "ytmkapmbmgpnjaaa", sum := "86fae9a118ff920be2d8ae07dd672a572ba1be81f6d26a16e1c7fd88e3909eb6", func := "sleuth/sleuthlaw06.ReduceMinimal", spec := "reduceMinimal", unfollowed := true, recurses := true, apart := false }
def ReduceMinimalSaid : Prop := reduceMinimalRow.holds Try.pinned (OpenSpec.ofChange reduceMinimalSpec)

/-- ITS FALSE NEIGHBOUR: 'it returns false'. Refute it at one input. -/
def reduceMinimalWrong : ChangeSpec := { name := "reduceMinimal", fn := fun _ => fun
  | [d1, d2, d3] => { results := [.lit (.bool false)], args := [d1, d2, d3] }
  | _ => none }
def ReduceMinimalWrongFalsely : Prop := reduceMinimalRow.holds Try.pinned (OpenSpec.ofChange reduceMinimalWrong)

/-- 'sleuthlaw06.ReduceUnique': WHATEVER THE INPUT: true; the input reads as it did. -/
def reduceUniqueSpec : ChangeSpec := { name := "reduceUnique", fn := fun _ => fun
  | [d1, d2, d3] => { results := [.lit (.bool true)], args := [d1, d2, d3] }
  | _ => none }
def reduceUniqueRow : OpenClaim := { program := "ytmkapmbmgpnjaaa", sum := "86fae9a118ff920be2d8ae07dd672a572ba1be81f6d26a16e1c7fd88e3909eb6", func := "sleuth/sleuthlaw06.ReduceUnique", spec := "reduceUnique", unfollowed := true, recurses := true, apart := false }
def ReduceUniqueSaid : Prop := reduceUniqueRow.holds Try.pinned (OpenSpec.ofChange reduceUniqueSpec)

/-- ITS FALSE NEIGHBOUR: 'it returns false'. Refute it at one input. -/
def reduceUniqueWrong : ChangeSpec := { name := "reduceUnique", fn := fun _ => fun
  | [d1, d2, d3] => { results := [.lit (.bool false)], args := [d1, d2, d3] }
  | _ => none }
def ReduceUniqueWrongFalsely : Prop := reduceUniqueRow.holds Try.pinned (OpenSpec.ofChange reduceUniqueWrong)

/-- 'sleuthlaw06.ReduceOnce': WHATEVER THE INPUT: true; the input reads as it did. -/
def reduceOnceSpec : ChangeSpec := { name := "reduceOnce", fn := fun _ => fun
  | [d1, d2, d3, d4, d5] => { results := [.lit (.bool true)], args := [d1, d2, d3, d4, d5] }
  | _ => none }
def reduceOnceRow : OpenClaim := { program := "ytmkapmbmgpnjaaa", sum := "86fae9a118ff920be2d8ae07dd672a572ba1be81f6d26a16e1c7fd88e3909eb6", func := "sleuth/sleuthlaw06.ReduceOnce", spec := "reduceOnce", unfollowed := true, recurses := true, apart := false }
def ReduceOnceSaid : Prop := reduceOnceRow.holds Try.pinned (OpenSpec.ofChange reduceOnceSpec)

/-- ITS FALSE NEIGHBOUR: 'it returns false'. Refute it at one input. -/
def reduceOnceWrong : ChangeSpec := { name := "reduceOnce", fn := fun _ => fun
  | [d1, d2, d3, d4, d5] => { results := [.lit (.bool false)], args := [d1, d2, d3, d4, d5] }
  | _ => none }
def ReduceOnceWrongFalsely : Prop := reduceOnceRow.holds Try.pinned (OpenSpec.ofChange reduceOnceWrong)

/-- 'sleuthlaw06.ReduceSurplus': WHATEVER THE INPUT: true; the input reads as it did. -/
def reduceSurplusSpec : ChangeSpec := { name := "reduceSurplus", fn := fun _ => fun
  | [d1, d2, d3, d4, d5, d6] => { results := [.lit (.bool true)], args := [d1, d2, d3, d4, d5, d6] }
  | _ => none }
def reduceSurplusRow : OpenClaim := { program := "ytmkapmbmgpnjaaa", sum := "86fae9a118ff920be2d8ae07dd672a572ba1be81f6d26a16e1c7fd88e3909eb6", func := "sleuth/sleuthlaw06.ReduceSurplus", spec := "reduceSurplus", unfollowed := true, recurses := true, apart := false }
def ReduceSurplusSaid : Prop := reduceSurplusRow.holds Try.pinned (OpenSpec.ofChange reduceSurplusSpec)

/-- ITS FALSE NEIGHBOUR: 'it returns false'. Refute it at one input. -/
def reduceSurplusWrong : ChangeSpec := { name := "reduceSurplus", fn := fun _ => fun
  | [d1, d2, d3, d4, d5, d6] => { results := [.lit (.bool false)], args := [d1, d2, d3, d4, d5, d6] }
  | _ => none }
def ReduceSurplusWrongFalsely : Prop := reduceSurplusRow.holds Try.pinned (OpenSpec.ofChange reduceSurplusWrong)

/-- 'sleuthlaw06.ReduceSets': WHATEVER THE INPUT: true; the input reads as it did. -/
def reduceSetsSpec : ChangeSpec := { name := "reduceSets", fn := fun _ => fun
  | [d1, d2, d3, d4] => { results := [.lit (.bool true)], args := [d1, d2, d3, d4] }
  | _ => none }
def reduceSetsRow : OpenClaim := { program := "ytmkapmbmgpnjaaa", sum := "86fae9a118ff920be2d8ae07dd672a572ba1be81f6d26a16e1c7fd88e3909eb6", func := "sleuth/sleuthlaw06.ReduceSets", spec := "reduceSets", unfollowed := true, recurses := true, apart := false }
def ReduceSetsSaid : Prop := reduceSetsRow.holds Try.pinned (OpenSpec.ofChange reduceSetsSpec)

/-- ITS FALSE NEIGHBOUR: 'it returns false'. Refute it at one input. -/
def reduceSetsWrong : ChangeSpec := { name := "reduceSets", fn := fun _ => fun
  | [d1, d2, d3, d4] => { results := [.lit (.bool false)], args := [d1, d2, d3, d4] }
  | _ => none }
def ReduceSetsWrongFalsely : Prop := reduceSetsRow.holds Try.pinned (OpenSpec.ofChange reduceSetsWrong)

/-- 'sleuthlaw06.ReduceScheduleMinimal': WHATEVER THE INPUT: true; the input reads as it did. -/
def reduceScheduleMinimalSpec : ChangeSpec := { name := "reduceScheduleMinimal", fn := fun _ => fun
  | [d1, d2] => { results := [.lit (.bool true)], args := [d1, d2] }
  | _ => none }
def reduceScheduleMinimalRow : OpenClaim := { program := "ytmkapmbmgpnjaaa", sum := "86fae9a118ff920be2d8ae07dd672a572ba1be81f6d26a16e1c7fd88e3909eb6", func := "sleuth/sleuthlaw06.ReduceScheduleMinimal", spec := "reduceScheduleMinimal", unfollowed := true, recurses := true, apart := false }
def ReduceScheduleMinimalSaid : Prop := reduceScheduleMinimalRow.holds Try.pinned (OpenSpec.ofChange reduceScheduleMinimalSpec)

/-- ITS FALSE NEIGHBOUR: 'it returns false'. Refute it at one input. -/
def reduceScheduleMinimalWrong : ChangeSpec := { name := "reduceScheduleMinimal", fn := fun _ => fun
  | [d1, d2] => { results := [.lit (.bool false)], args := [d1, d2] }
  | _ => none }
def ReduceScheduleMinimalWrongFalsely : Prop := reduceScheduleMinimalRow.holds Try.pinned (OpenSpec.ofChange reduceScheduleMinimalWrong)

/-- 'sleuthlaw06.ReduceSchedules': WHATEVER THE INPUT: true; the input reads as it did. -/
def reduceSchedulesSpec : ChangeSpec := { name := "reduceSchedules", fn := fun _ => fun
  | [d1, d2, d3] => { results := [.lit (.bool true)], args := [d1, d2, d3] }
  | _ => none }
def reduceSchedulesRow : OpenClaim := { program := "ytmkapmbmgpnjaaa", sum := "86fae9a118ff920be2d8ae07dd672a572ba1be81f6d26a16e1c7fd88e3909eb6", func := "sleuth/sleuthlaw06.ReduceSchedules", spec := "reduceSchedules", unfollowed := true, recurses := true, apart := false }
def ReduceSchedulesSaid : Prop := reduceSchedulesRow.holds Try.pinned (OpenSpec.ofChange reduceSchedulesSpec)

/-- ITS FALSE NEIGHBOUR: 'it returns false'. Refute it at one input. -/
def reduceSchedulesWrong : ChangeSpec := { name := "reduceSchedules", fn := fun _ => fun
  | [d1, d2, d3] => { results := [.lit (.bool false)], args := [d1, d2, d3] }
  | _ => none }
def ReduceSchedulesWrongFalsely : Prop := reduceSchedulesRow.holds Try.pinned (OpenSpec.ofChange reduceSchedulesWrong)

/- THE SECOND FORM. 'bulk': how many values and letters a reading holds, each counted each time it is reached (what is shared counts as often as it is met; a slice's spare places count too). A statement '..UptoSaid' is the law's where the arguments, and the package variables that the reading takes, are together of bulk at most 1048576: NARROWER than '..Said'. Prove '..Said' where nothing that the law and all that it calls make is longer than what came in: it says more and counts as full. Else prove '..UptoSaid'. A law counts once. -/
mutual
def uptoBulk {H : Type} : DataW H → Nat
  | .lit (.string bytes) => bytes.length + 1
  | .lit _ => 1
  | .nil => 1
  | .ptr d => uptoBulk d + 1
  | .slice elems spare => uptoBulkAll elems + uptoBulkAll spare + 1
  | .agg parts => uptoBulkAll parts + 1
  | .iface _ d => uptoBulk d + 1
  | .map entries => uptoBulkEntries entries + 1
  | .held _ => 1
def uptoBulkAll {H : Type} : List (DataW H) → Nat
  | [] => 0
  | d :: r => uptoBulk d + uptoBulkAll r
def uptoBulkEntries {H : Type} : List (Lit × DataW H) → Nat
  | [] => 0
  | x :: r => uptoBulkEntry x + uptoBulkEntries r
def uptoBulkEntry {H : Type} : Lit × DataW H → Nat
  | (.string bytes, d) => bytes.length + uptoBulk d + 1
  | (_, d) => uptoBulk d + 1
 end
def uptoSmall : (H : Type) → List (DataW H) → Bool := fun _ ds => decide (uptoBulkAll ds ≤ 1048576)
def OpenSpec.upto (s : _root_.Go.ChangeSpec) : _root_.Go.OpenSpec := { _root_.Go.OpenSpec.ofChange s with cond := some uptoSmall }

/-- 'sleuthlaw06.ReduceCulprit', WHERE WHAT IT READS IS OF BULK AT MOST 1048576: true; the input reads as it did. -/
def reduceCulpritUptoRow : OpenClaim := { program := "ytmkapmbmgpnjaaa", sum := "86fae9a118ff920be2d8ae07dd672a572ba1be81f6d26a16e1c7fd88e3909eb6", func := "sleuth/sleuthlaw06.ReduceCulprit", spec := "reduceCulprit", unfollowed := true, recurses := true, apart := false, narrowed := true }
def ReduceCulpritUptoSaid : Prop := reduceCulpritUptoRow.holds Try.pinned (OpenSpec.upto reduceCulpritSpec)

/-- 'sleuthlaw06.ReduceHistories', WHERE WHAT IT READS IS OF BULK AT MOST 1048576: true; the input reads as it did. -/
def reduceHistoriesUptoRow : OpenClaim := { program := "ytmkapmbmgpnjaaa", sum := "86fae9a118ff920be2d8ae07dd672a572ba1be81f6d26a16e1c7fd88e3909eb6", func := "sleuth/sleuthlaw06.ReduceHistories", spec := "reduceHistories", unfollowed := true, recurses := true, apart := false, narrowed := true }
def ReduceHistoriesUptoSaid : Prop := reduceHistoriesUptoRow.holds Try.pinned (OpenSpec.upto reduceHistoriesSpec)

/-- 'sleuthlaw06.ReduceChangesMinimal', WHERE WHAT IT READS IS OF BULK AT MOST 1048576: true; the input reads as it did. -/
def reduceChangesMinimalUptoRow : OpenClaim := { program := "ytmkapmbmgpnjaaa", sum := "86fae9a118ff920be2d8ae07dd672a572ba1be81f6d26a16e1c7fd88e3909eb6", func := "sleuth/sleuthlaw06.ReduceChangesMinimal", spec := "reduceChangesMinimal", unfollowed := true, recurses := true, apart := false, narrowed := true }
def ReduceChangesMinimalUptoSaid : Prop := reduceChangesMinimalUptoRow.holds Try.pinned (OpenSpec.upto reduceChangesMinimalSpec)

/-- 'sleuthlaw06.ReduceNeeds', WHERE WHAT IT READS IS OF BULK AT MOST 1048576: true; the input reads as it did. -/
def reduceNeedsUptoRow : OpenClaim := { program := "ytmkapmbmgpnjaaa", sum := "86fae9a118ff920be2d8ae07dd672a572ba1be81f6d26a16e1c7fd88e3909eb6", func := "sleuth/sleuthlaw06.ReduceNeeds", spec := "reduceNeeds", unfollowed := true, recurses := true, apart := false, narrowed := true }
def ReduceNeedsUptoSaid : Prop := reduceNeedsUptoRow.holds Try.pinned (OpenSpec.upto reduceNeedsSpec)

/-- 'sleuthlaw06.ReduceIsolated', WHERE WHAT IT READS IS OF BULK AT MOST 1048576: true; the input reads as it did. -/
def reduceIsolatedUptoRow : OpenClaim := { program := "ytmkapmbmgpnjaaa", sum := "86fae9a118ff920be2d8ae07dd672a572ba1be81f6d26a16e1c7fd88e3909eb6", func := "sleuth/sleuthlaw06.ReduceIsolated", spec := "reduceIsolated", unfollowed := true, recurses := true, apart := false, narrowed := true }
def ReduceIsolatedUptoSaid : Prop := reduceIsolatedUptoRow.holds Try.pinned (OpenSpec.upto reduceIsolatedSpec)

/-- 'sleuthlaw06.ReduceMinimal', WHERE WHAT IT READS IS OF BULK AT MOST 1048576: true; the input reads as it did. -/
def reduceMinimalUptoRow : OpenClaim := { program := "ytmkapmbmgpnjaaa", sum := "86fae9a118ff920be2d8ae07dd672a572ba1be81f6d26a16e1c7fd88e3909eb6", func := "sleuth/sleuthlaw06.ReduceMinimal", spec := "reduceMinimal", unfollowed := true, recurses := true, apart := false, narrowed := true }
def ReduceMinimalUptoSaid : Prop := reduceMinimalUptoRow.holds Try.pinned (OpenSpec.upto reduceMinimalSpec)

/-- 'sleuthlaw06.ReduceUnique', WHERE WHAT IT READS IS OF BULK AT MOST 1048576: true; the input reads as it did. -/
def reduceUniqueUptoRow : OpenClaim := { program := "ytmkapmbmgpnjaaa", sum := "86fae9a118ff920be2d8ae07dd672a572ba1be81f6d26a16e1c7fd88e3909eb6", func := "sleuth/sleuthlaw06.ReduceUnique", spec := "reduceUnique", unfollowed := true, recurses := true, apart := false, narrowed := true }
def ReduceUniqueUptoSaid : Prop := reduceUniqueUptoRow.holds Try.pinned (OpenSpec.upto reduceUniqueSpec)

/-- 'sleuthlaw06.ReduceOnce', WHERE WHAT IT READS IS OF BULK AT MOST 1048576: true; the input reads as it did. -/
def reduceOnceUptoRow : OpenClaim := { program := "ytmkapmbmgpnjaaa", sum := "86fae9a118ff920be2d8ae07dd672a572ba1be81f6d26a16e1c7fd88e3909eb6", func := "sleuth/sleuthlaw06.ReduceOnce", spec := "reduceOnce", unfollowed := true, recurses := true, apart := false, narrowed := true }
def ReduceOnceUptoSaid : Prop := reduceOnceUptoRow.holds Try.pinned (OpenSpec.upto reduceOnceSpec)

/-- 'sleuthlaw06.ReduceSurplus', WHERE WHAT IT READS IS OF BULK AT MOST 1048576: true; the input reads as it did. -/
def reduceSurplusUptoRow : OpenClaim := { program := "ytmkapmbmgpnjaaa", sum := "86fae9a118ff920be2d8ae07dd672a572ba1be81f6d26a16e1c7fd88e3909eb6", func := "sleuth/sleuthlaw06.ReduceSurplus", spec := "reduceSurplus", unfollowed := true, recurses := true, apart := false, narrowed := true }
def ReduceSurplusUptoSaid : Prop := reduceSurplusUptoRow.holds Try.pinned (OpenSpec.upto reduceSurplusSpec)

/-- 'sleuthlaw06.ReduceSets', WHERE WHAT IT READS IS OF BULK AT MOST 1048576: true; the input reads as it did. -/
def reduceSetsUptoRow : OpenClaim := { program := "ytmkapmbmgpnjaaa", sum := "86fae9a118ff920be2d8ae07dd672a572ba1be81f6d26a16e1c7fd88e3909eb6", func := "sleuth/sleuthlaw06.ReduceSets", spec := "reduceSets", unfollowed := true, recurses := true, apart := false, narrowed := true }
def ReduceSetsUptoSaid : Prop := reduceSetsUptoRow.holds Try.pinned (OpenSpec.upto reduceSetsSpec)

/-- 'sleuthlaw06.ReduceScheduleMinimal', WHERE WHAT IT READS IS OF BULK AT MOST 1048576: true; the input reads as it did. -/
def reduceScheduleMinimalUptoRow : OpenClaim := { program := "ytmkapmbmgpnjaaa", sum := "86fae9a118ff920be2d8ae07dd672a572ba1be81f6d26a16e1c7fd88e3909eb6", func := "sleuth/sleuthlaw06.ReduceScheduleMinimal", spec := "reduceScheduleMinimal", unfollowed := true, recurses := true, apart := false, narrowed := true }
def ReduceScheduleMinimalUptoSaid : Prop := reduceScheduleMinimalUptoRow.holds Try.pinned (OpenSpec.upto reduceScheduleMinimalSpec)

/-- 'sleuthlaw06.ReduceSchedules', WHERE WHAT IT READS IS OF BULK AT MOST 1048576: true; the input reads as it did. -/
def reduceSchedulesUptoRow : OpenClaim := { program := "ytmkapmbmgpnjaaa", sum := "86fae9a118ff920be2d8ae07dd672a572ba1be81f6d26a16e1c7fd88e3909eb6", func := "sleuth/sleuthlaw06.ReduceSchedules", spec := "reduceSchedules", unfollowed := true, recurses := true, apart := false, narrowed := true }
def ReduceSchedulesUptoSaid : Prop := reduceSchedulesUptoRow.holds Try.pinned (OpenSpec.upto reduceSchedulesSpec)

end Rows
end Go.Proofs.Ytmkapmbmgpnjaaa
