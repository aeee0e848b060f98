import Derived.Test.YtjljdfeglikbjaaRcH
set_option maxRecDepth 100000
namespace Go.Proofs.Ytjljdfeglikbjaa.Rc
open Go Go.Ms Go.Pg Go.Rc Go.ChangeShapes Go.WideShapes Go.ChangeAt Go.RowKit Go.Deep

theorem chunksProg {w : World} {oa : Option Addr} {cap : Nat} {l : List Int} {z : Int} (h : RowAt 1 (NumAt .i64) w (.slice oa l.length cap) l) (hcap : l.length ≤ cap) (hl : l.length ≤ 400) :
    Calls Try.prog 7 #[.slice oa l.length cap, .int .i64 z] w fun e W' => ∃ v', e = .returned v' ∧ Below w.heap.size w W' ∧ Grid w.heap.size W' v' (pieces l (count l.length z) (count l.length z)) := callsIn_wide.1 (chunksIn h hcap hl)

theorem row_below {w w' : World} {v : Value} {l : List Int} (hB : Below w.heap.size w w') (h : RowAt 1 (NumAt .i64) w v l) : RowAt 1 (NumAt .i64) w' v l := h.imp fun _ _ _ q => ⟨cell_below hB q.1, q.2⟩
theorem Grid.form {B : Nat} {w : World} {v : Value} {ls : List (List Int)} (h : Grid B w v ls) : ∃ oa cap, v = .slice oa ls.length cap := by
  obtain ⟨xs, h1, _⟩ := h
  exact Go.Il.own_formS h1
theorem Grid.get {B : Nat} {w : World} {oa : Option Addr} {n cap : Nat} {ls : List (List Int)} (h : Grid B w (.slice oa n cap) ls) {i : Nat} (hi : i < ls.length) (hw : ∀ m ∈ ls, ∀ x ∈ m, WfI .i64 x) (hl : ∀ m ∈ ls, m.length ≤ 400) :
    ∃ g ob cap', oa = some ⟨g, 0, none⟩ ∧ w.cell? ⟨g, i, none⟩ = some (.slice ob ls[i].length cap') ∧ RowAt 1 (NumAt .i64) w (.slice ob ls[i].length cap') ls[i] := by
  obtain ⟨xs, h1, h2⟩ := h
  obtain ⟨u, h3, h4⟩ := h2 i hi
  have hr := own_row h4 (hw _ (List.getElem_mem hi)) (by have := hl _ (List.getElem_mem hi); omega)
  obtain ⟨ob, cap', rfl⟩ := h4.form
  rcases h1.2 with ⟨e, e0⟩ | ⟨g, cap2, cur, e, _, hg, _, _, _, ht⟩
  · omega
  · cases e
    refine ⟨g, ob, cap', rfl, ?_, hr⟩
    have := h1.cells (g := g) rfl i _ h3
    rw [Go.WideShapes.add_plain] at this
    simpa using this
end Go.Proofs.Ytjljdfeglikbjaa.Rc
