import Derived.Test.YtdpgcoicbagflaaBiS
set_option maxRecDepth 100000
set_option linter.unusedSimpArgs false
set_option linter.unusedVariables false
namespace Go.Proofs.Ytdpgcoicbagflaa.Bi
open Go Go.Ms Go.Pg Go.Bi Go.ChangeShapes Go.WideShapes Go.ChangeAt Go.RowKit Go.Deep

abbrev rowB (K : List Bool) : Obj := .cells (K.map Value.bool).toArray 4 (0, 0)
theorem made_false (n : Nat) : madeCells #[.bool false] (n * 1) = ((List.replicate n false).map Value.bool).toArray := by
  apply Array.ext
  · simp [madeCells]
  · intro i h1 h2
    simp [madeCells, Nat.mod_one]
theorem make71 (n : Nat) (hn : n ≤ 1000) (W : World) : (Instr.makeSlice 71 (.int .i64 (n : Int)) (.int .i64 (n : Int))).run Try.prog W = .ok (.slice (some ⟨W.heap.size, 0, none⟩) n n) (W.alloc (rowB (List.replicate n false))) := by
  have g : (Try.prog.info? 4).map (fun i => (i.size, i.bytes, i.zero.map fun z => z.cells)) = some (1, 1, some #[.bool false]) := by kernel_rfl
  cases hi : Try.prog.info? 4 with
  | none => rw [hi] at g; cases g
  | some i =>
    rw [hi] at g
    simp only [Option.map_some, Option.some.injEq, Prod.mk.injEq] at g
    obtain ⟨g1, g2, g3⟩ := g
    cases hz : i.zero with
    | none => rw [hz] at g3; cases g3
    | some z =>
      rw [hz] at g3
      simp only [Option.map_some, Option.some.injEq] at g3
      have h := run_make (P := Try.prog) W 71 4 i z Try.underlying71 hi hz .i64 .i64 n n (by omega) (by omega) (by rw [g2]; omega) (by omega)
      rw [g3, g1, Int.toNat_natCast, made_false] at h
      exact h
theorem rowB_bools {w : World} {b : Nat} {K : List Bool} (h : w.heap[b]? = some (rowB K)) (hK : K.length ≤ 256) : Bools w (.slice (some ⟨b, 0, none⟩) K.length K.length) K :=
  ⟨b, 0, K.length, rfl, hK, fun i hi => (cell_of h (0 + i)).trans (by simp [hi])⟩
theorem rowB_set {w : World} {b v : Nat} {K : List Bool} (h : w.heap[b]? = some (rowB K)) (hv : v < K.length) : (w.setCell ⟨b, v, none⟩ (.bool true)).heap[b]? = some (rowB (K.set v true)) := by
  refine (heap_setCell_same _ b v _ 4 (.bool true) h).trans ?_
  simp [rowB, List.map_set]
theorem known_set {K : List Bool} {v i : Nat} (hv : v < K.length) : known (K.set v true) i = (known K i || i == v) := by
  unfold known
  by_cases e : i = v
  · subst e; simp [hv]
  · have e2 : ¬ v = i := fun q => e q.symm
    simp [List.getElem?_set, e2, e]
end Go.Proofs.Ytdpgcoicbagflaa.Bi
