import Derived.Test.YtdfjjmibhnniiaaGreatDoorLvB
import Derived.Deep.DeepLaidRun
set_option maxRecDepth 100000
namespace Go.Proofs.YtdfjjmibhnniiaaGreatDoor.Lv
open Go.Ev Go.RowKit Go.ChangeShapes Go.WideShapes Go.ChangeAt

def put (x : Array Value) : Obj → Obj
  | .cells _ t frozen => .cells x t frozen
  | o => o

def tab32 : List Int := [0, 1, 28, 2, 29, 14, 24, 3, 30, 22, 20, 15, 25, 17, 4, 8, 31, 27, 13, 23, 21, 19, 16, 7, 26, 12, 18, 6, 11, 5, 10, 9]
def tab64 : List Int := [0, 1, 56, 2, 57, 49, 28, 3, 61, 58, 42, 50, 38, 29, 17, 4, 62, 47, 59, 36, 45, 43, 51, 22, 53, 39, 33, 30, 24, 18, 12, 5, 63, 55, 48, 27, 60, 41, 37, 16, 46, 35, 44, 21, 52, 32, 23, 11, 54, 26, 40, 15, 34, 20, 31, 10, 25, 14, 19, 9, 13, 8, 7, 6]
def ranges8 : List Int := [128, 191, 160, 191, 128, 159, 144, 191, 128, 143, 0, 0, 0, 0, 0, 0, 0, 0, 0, 0, 0, 0, 0, 0, 0, 0, 0, 0, 0, 0, 0, 0]
def vals8 (l : List Int) : Array Value := (l.map (Value.int .u8)).toArray
def textRange : List UInt8 := [118, 97, 108, 117, 101, 32, 111, 117, 116, 32, 111, 102, 32, 114, 97, 110, 103, 101]
def textSyntax : List UInt8 := [105, 110, 118, 97, 108, 105, 100, 32, 115, 121, 110, 116, 97, 120]

/-- Where the witness's two errors lie. -/
noncomputable def top (os : Os) : Nat := (World.settled Tryz.prog os).heap.size

/-- A world for the witness: the listed variables hold what their initialisers lay. -/
noncomputable def laidWorld (os : Os) : World :=
  let w0 := World.holding Tryz.prog os ⟨#[.cells #[.string ⟨textSyntax.toArray⟩] 262, .cells #[.string ⟨textRange.toArray⟩] 262], #[], []⟩
  let h1 := w0.heap.modify 5 (put tabVals)
  let h2 := h1.modify 6 (put (vals8 tab32))
  let h3 := h2.modify 7 (put (vals8 tab64))
  let h4 := h3.modify 2 (put (vals8 ranges8))
  let h5 := h4.modify 1 (put (vals8 (Go.Pinned.utf8FirstZ.map Int.ofNat)))
  let h6 := h5.modify 3 (put #[.iface 260 (.pointer (some ⟨top os, 0, none⟩))])
  { w0 with heap := h6.modify 4 (put #[.iface 260 (.pointer (some ⟨top os + 1, 0, none⟩))]) }

/-- What the row's list gives. -/
theorem tab_of {l : List (String × DataW Unit)} {W : World} (hl : l = [("math/bits.deBruijn32tab", Rows.laid_math_bits_deBruijn32tab), ("math/bits.deBruijn64tab", Rows.laid_math_bits_deBruijn64tab), ("internal/strconv.uint64pow10", Rows.laid_internal_strconv_uint64pow10), ("unicode/utf8.acceptRanges", Rows.laid_unicode_utf8_acceptRanges), ("strconv.ErrRange", Rows.laid_strconv_ErrRange), ("strconv.ErrSyntax", Rows.laid_strconv_ErrSyntax), ("unicode/utf8.first", Rows.laid_unicode_utf8_first)])
    (h : laidMetH Tryz.prog l W) : ∃ e, W.heap[5]? = some (.cells tabVals e (0, 0)) := by
  subst hl
  have h : laidMet Tryz.prog [("math/bits.deBruijn32tab", Rows.laid_math_bits_deBruijn32tab), ("math/bits.deBruijn64tab", Rows.laid_math_bits_deBruijn64tab), ("internal/strconv.uint64pow10", Rows.laid_internal_strconv_uint64pow10), ("unicode/utf8.acceptRanges", Rows.laid_unicode_utf8_acceptRanges), ("strconv.ErrRange", Rows.laid_strconv_ErrRange), ("strconv.ErrSyntax", Rows.laid_strconv_ErrSyntax), ("unicode/utf8.first", Rows.laid_unicode_utf8_first)] W := h
  obtain ⟨ps, ⟨_, _, _, _, p1, q1, _, _, _, _, ⟨_, _, _, _, p2, q2, _, _, _, _, ⟨g, t, cs, fuel, p, q6, hg, ht, hvar, hd, _, e6⟩, e2⟩, e1⟩, _, hcell⟩ := h
  have hg0 : g = 5 := Option.some.inj (hg.symm.trans gOps)
  subst hg0
  have ht0 : t = 270 := Option.some.inj (ht.symm.trans gOpsType)
  subst ht0
  have hcs : cs.toList = tab.map fun z => Value.int .u64 z := Lib.cells_of_tab Tryz.underlying270 Tryz.underlying132 cells_one cells_tab hd
  have hcs2 : cs = tabVals := by
    have h1 := congrArg List.toArray hcs
    have h2 : cs.toList.toArray = cs := by simp
    rw [h2] at h1
    exact h1
  subst hcs2
  have hmem : MemPlace.cell 5 0 ∈ ps := by
    rw [e1, e2, e6]
    have : MemPlace.cell 5 0 ∈ MemPlace.row ⟨5, 0, none⟩ tabVals.size := by decide
    simp only [List.mem_append]
    exact .inr (.inr (.inl (.inl this)))
  obtain ⟨⟨c, e, hc⟩, _⟩ := hcell 5 0 hmem
  refine ⟨e, ?_⟩
  unfold World.var? at hvar
  rw [gOps] at hvar
  simp only [Option.bind_some] at hvar
  rw [hc] at hvar ⊢
  simp only [Option.some.injEq] at hvar
  rw [hvar]

theorem laidRun_world (os : Os) (args : Array Value) : laidMet Tryz.prog Rows.learnClaimsRow.laid ((laidWorld os).forCall (fun _ _ => 0) ⟨#[], args, []⟩).memory :=
  laidMet_of_run3 8 (by kernel_rfl) (by kernel_rfl) (by kernel_rfl)
end Go.Proofs.YtdfjjmibhnniiaaGreatDoor.Lv
