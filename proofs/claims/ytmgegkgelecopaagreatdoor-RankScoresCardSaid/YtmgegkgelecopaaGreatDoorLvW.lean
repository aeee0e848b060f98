import Derived.Test.YtmgegkgelecopaaGreatDoorLvB
set_option maxRecDepth 100000
namespace Go.Proofs.YtmgegkgelecopaaGreatDoor.Lv
open Go.Ev Go.RowKit Go.ChangeShapes Go.WideShapes Go.ChangeAt

def put (x : Array Value) : Obj → Obj
  | .cells _ t frozen => .cells x t frozen
  | o => o

/-- A world for the witness: the listed variable holds what its initialiser lays. -/
noncomputable def laidWorld (os : Os) : World :=
  let w0 := World.holding Tryz.prog os ⟨#[], #[], []⟩
  { w0 with heap := w0.heap.modify 0 (put tabVals) }

/-- What the row's list gives. -/
theorem tab_of {l : List (String × DataW Unit)} {W : World} (hl : l = [("math/bits.deBruijn64tab", Rows.laid_math_bits_deBruijn64tab)]) (h : laidMetH Tryz.prog l W) : ∃ e, W.heap[0]? = some (.cells tabVals e (0, 0)) := by
  subst hl
  have h : laidMet Tryz.prog [("math/bits.deBruijn64tab", Rows.laid_math_bits_deBruijn64tab)] W := h
  obtain ⟨ps, ⟨g, t, cs, fuel, p, q6, hg, ht, hvar, hd, hq6, e6⟩, _, hcell⟩ := h
  have hg0 : g = 0 := Option.some.inj (hg.symm.trans gOps)
  subst hg0
  have ht0 : t = 159 := Option.some.inj (ht.symm.trans gOpsType)
  subst ht0
  have hcs : cs.toList = tab.map fun z => Value.int .u8 z := Lib.cells_of_tab Tryz.underlying159 Tryz.underlying5 cells9 cells_159 hd
  have hcs2 : cs = tabVals := by
    have h1 := congrArg List.toArray hcs
    have h2 : cs.toList.toArray = cs := by simp
    rw [h2] at h1
    exact h1
  subst hcs2
  have hmem : MemPlace.cell 0 0 ∈ ps := by
    rw [e6]
    have : MemPlace.cell 0 0 ∈ MemPlace.row ⟨0, 0, none⟩ tabVals.size := by decide
    simp only [List.mem_append]
    exact .inl (.inl this)
  obtain ⟨⟨c, e, hc⟩, _⟩ := hcell 0 0 hmem
  refine ⟨e, ?_⟩
  unfold World.var? at hvar
  rw [gOps] at hvar
  simp only [Option.bind_some] at hvar
  rw [hc] at hvar ⊢
  simp only [Option.some.injEq] at hvar
  rw [hvar]
end Go.Proofs.YtmgegkgelecopaaGreatDoor.Lv
