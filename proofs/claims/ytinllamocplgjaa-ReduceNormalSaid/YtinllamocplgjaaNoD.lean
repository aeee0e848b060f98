import Derived.Test.YtinllamocplgjaaNoC
import Derived.Test.YtinllamocplgjaaNoA
import Derived.BigRegion
import Derived.Laws.OwnMore
set_option maxRecDepth 100000
namespace Go.Proofs.Ytinllamocplgjaa.No
open Go Go.Ms Go.Pg Go.Rc Go.No Go.ChangeShapes Go.WideShapes Go.ChangeAt Go.RowKit Go.Deep Go.Proofs.Ytinllamocplgjaa.Rc

def pc (p : Pick) : List Value := [.int .i64 p.1, .int .i64 p.2]
theorem pc_len : ∀ l : List Pick, (l.flatMap pc).length = l.length * 2
  | [] => rfl
  | p :: l => by rw [List.flatMap_cons, List.length_append, pc_len l, List.length_cons]; simp [pc]; omega
def OwnP (B : Nat) (w : World) (v : Value) (l : List Pick) : Prop := w.ownsRow B 36 2 v l.length (l.flatMap pc)
theorem EP : Go.Il.Elem Try.prog 28 36 2 16 := by
  have g : (Try.prog.info? 36).map (fun i => (i.size, i.bytes, i.zero.map fun z => z.cells.size)) = some (2, 16, some 2) := by kernel_rfl
  cases hi : Try.prog.info? 36 with
  | none => rw [hi] at g; cases g
  | some i =>
    rw [hi] at g
    simp only [Option.map_some, Option.some.injEq, Prod.mk.injEq] at g
    obtain ⟨g1, g2, g3⟩ := g
    cases hz : i.zero with
    | none => rw [hz] at g3; cases g3
    | some z =>
      rw [hz] at g3
      simp only [Option.map_some, Option.some.injEq] at g3
      exact ⟨Try.underlying28, i, z, hi, hz, g1, g2, g3, by decide⟩
theorem pc_get : ∀ (l : List Pick) (i : Nat) (h : i < l.length), (l.flatMap pc)[i * 2]? = some (.int .i64 l[i].1) ∧ (l.flatMap pc)[i * 2 + 1]? = some (.int .i64 l[i].2)
  | p :: l, 0, _ => by simp [pc]
  | p :: l, i + 1, h => by
    have := pc_get l i (by simpa using h)
    rw [List.flatMap_cons]
    refine ⟨?_, ?_⟩
    · rw [List.getElem?_append_right (by simp [pc]; omega), show (i + 1) * 2 - (pc p).length = i * 2 by simp [pc]; omega]
      exact this.1
    · rw [List.getElem?_append_right (by simp [pc]; omega), show (i + 1) * 2 + 1 - (pc p).length = i * 2 + 1 by simp [pc]; omega]
      exact this.2
theorem OwnP.form {B : Nat} {w : World} {v : Value} {l : List Pick} (h : OwnP B w v l) : ∃ oa cap, v = .slice oa l.length cap := Go.Il.own_formS h
theorem OwnP.get {B : Nat} {w : World} {oa : Option Addr} {n cap : Nat} {l : List Pick} (h : OwnP B w (.slice oa n cap) l) {i : Nat} (hi : i < l.length) :
    ∃ g, oa = some ⟨g, 0, none⟩ ∧ B ≤ g ∧ g < w.heap.size ∧ w.cell? ⟨g, i * 2, none⟩ = some (.int .i64 l[i].1) ∧ w.cell? ⟨g, i * 2 + 1, none⟩ = some (.int .i64 l[i].2) ∧ w.frozen? ⟨g, i * 2 + 1, none⟩ = false := by
  obtain ⟨p1, p2⟩ := pc_get l i hi
  have hlt := h.lt
  rcases h.2 with ⟨e, e0⟩ | ⟨g, cap2, cur, e, hb, hg, _, _, _, ht⟩
  · omega
  · cases e
    have c1 := World.ownsRow.cells (g := g) h rfl _ _ p1
    have c2 := World.ownsRow.cells (g := g) h rfl _ _ p2
    rw [Go.WideShapes.add_plain, Nat.zero_add] at c1 c2
    exact ⟨g, rfl, hb, block_lt hg, c1, c2, frozen_of hg _⟩
theorem OwnP.row {B : Nat} {w : World} {v : Value} {l : List Pick} (h : OwnP B w v l) (hw : ∀ p ∈ l, WfI .i64 p.1 ∧ WfI .i64 p.2) (hl : l.length ≤ 1000000) : Picks w v l := by
  obtain ⟨oa, cap, rfl⟩ := h.form
  refine ⟨oa, cap, rfl, by omega, fun i hi => ?_⟩
  obtain ⟨g, e, _, _, c1, c2, _⟩ := OwnP.get h hi
  exact ⟨g, 0, e, ⟨by rw [Nat.zero_add]; exact c1, (hw _ (List.getElem_mem hi)).1⟩, by rw [Nat.zero_add]; exact c2, (hw _ (List.getElem_mem hi)).2⟩
theorem OwnP.nil (B : Nat) (w : World) : OwnP B w (.slice none 0 0) [] := World.ownsRow_nil _ _ _ _
theorem OwnP.stored {B : Nat} {w : World} {g cap n : Nat} {l : List Pick} {q : Pick} {c : Int} (h : OwnP B w (.slice (some ⟨g, 0, none⟩) n cap) (l ++ [q])) :
    OwnP B (w.setCell ⟨g, l.length * 2 + 1, none⟩ (.int .i64 c)) (.slice (some ⟨g, 0, none⟩) n cap) (l ++ [(q.1, c)]) := by
  have hn : n = l.length + 1 := by
    obtain ⟨oa, cap', e⟩ := h.form
    injection e with _ e _
    simpa using e
  subst hn
  have h' : w.ownsRow B 36 2 (.slice (some ⟨g, 0, none⟩) (l.length + 1) cap) (l.length + 1) ((l ++ [q]).flatMap pc) := by
    have := h
    unfold OwnP at this
    simpa using this
  have k := (World.ownsRow.stored h' (l.length * 2 + 1) (.int .i64 c)).1
  have e : ((l ++ [q]).flatMap pc).set (l.length * 2 + 1) (.int .i64 c) = (l ++ [(q.1, c)]).flatMap pc := by
    rw [List.flatMap_append, List.flatMap_append, List.set_append_right _ _ (by rw [pc_len]; omega), pc_len, show l.length * 2 + 1 - l.length * 2 = 1 by omega]
    simp [pc]
  rw [e] at k
  unfold OwnP
  simpa using k
end Go.Proofs.Ytinllamocplgjaa.No
